package ratio_test

import (
	"math"
	"math/big"
	"regexp"
	"strings"
	"testing"

	"diorama/api"
	"diorama/ratio"
)

const most = 1 << 31

func of(p, q int) api.Ratio { return api.Ratio{P: p, Q: q} }

// operation is a function that makes a fraction of two.
type operation func(a, b api.Ratio) (api.Ratio, api.Errno)

// edgeInts are numbers around those that the chapter names, and around the ends of int.
func edgeInts() []int {
	var l []int
	for _, n := range []int{0, 6, 35, 1 << 16, most, 1 << 32, 3 << 31, 1 << 62, math.MaxInt - 1} {
		for _, near := range []int{n - 1, n, n + 1} {
			l = append(l, near, -near)
		}
	}
	return append(l, math.MinInt)
}

// anyFractions are fractions that are valid and such that are not.
func anyFractions() []api.Ratio {
	l := []api.Ratio{of(0, 0), of(0, 2), of(0, -1), of(2, 4), of(3, 3), of(most, most), of(1, 0), of(-1, 0), of(1, -2), of(-1, -1)}
	for _, p := range []int{math.MinInt, -most - 1, most + 1, math.MaxInt} {
		l = append(l, of(p, 1), of(p, 2), of(p, 0), of(p, p), of(1, p))
	}
	return append(l, fractions()...)
}

// fractions are valid fractions, the zero value among them.
func fractions() []api.Ratio {
	l := []api.Ratio{of(0, 0)}
	for q := 1; q <= 5; q++ {
		for p := -7; p <= 7; p++ {
			if refValid(of(p, q)) {
				l = append(l, of(p, q))
			}
		}
	}
	for _, p := range []int{1, 2, 46341, 1 << 30, most - 1, most} {
		for _, q := range []int{1, 3, 46340, 1 << 30, most - 1, most} {
			if refValid(of(p, q)) {
				l = append(l, of(p, q), of(-p, q))
			}
		}
	}
	return l
}

// eachPair calls f for all pairs of fractions of a list.
func eachPair(l []api.Ratio, f func(a, b api.Ratio)) {
	for _, a := range l {
		for _, b := range l {
			f(a, b)
		}
	}
}

// The functions ref... calculate with the library's fractions, which have no limits.

func refRat(p, q int) *big.Rat {
	return new(big.Rat).SetFrac(big.NewInt(int64(p)), big.NewInt(int64(q)))
}

// refValue returns the value of a valid fraction.
func refValue(a api.Ratio) *big.Rat {
	if a == of(0, 0) {
		return new(big.Rat)
	}
	return refRat(a.P, a.Q)
}

func refValid(a api.Ratio) bool {
	if a == of(0, 0) {
		return true
	}
	if a.Q < 1 || a.Q > most || a.P < -most || a.P > most {
		return false
	}
	common := new(big.Int).GCD(nil, nil, big.NewInt(int64(a.P)), big.NewInt(int64(a.Q)))
	return common.Cmp(big.NewInt(1)) == 0
}

// refRatio returns the fraction with a value, if a valid one has it.
func refRatio(r *big.Rat) (api.Ratio, api.Errno) {
	limit := big.NewInt(most)
	if r.Num().CmpAbs(limit) > 0 || r.Denom().Cmp(limit) > 0 {
		return of(0, 0), api.ErrRange
	}
	return of(int(r.Num().Int64()), int(r.Denom().Int64())), api.OK
}

// P4.1: the examples of the document, and the limits
func TestMakeOfKnownNumbers(t *testing.T) {
	for _, c := range []struct {
		p, q int
		want api.Ratio
		e    api.Errno
	}{
		{6, -4, of(-3, 2), api.OK},
		{-6, 4, of(-3, 2), api.OK},
		{-6, -4, of(3, 2), api.OK},
		{7, 7, of(1, 1), api.OK},
		{0, 1, of(0, 1), api.OK},
		{0, -9, of(0, 1), api.OK},
		{0, math.MinInt, of(0, 1), api.OK},
		{1, 0, of(0, 0), api.ErrArg},
		{0, 0, of(0, 0), api.ErrArg},
		{most + 1, 0, of(0, 0), api.ErrArg},
		{math.MinInt, 0, of(0, 0), api.ErrArg},
		{most, 1, of(most, 1), api.OK},
		{-most, 1, of(-most, 1), api.OK},
		{1, most, of(1, most), api.OK},
		{1, -most, of(-1, most), api.OK},
		{most + 1, 1, of(0, 0), api.ErrRange},
		{-most - 1, 1, of(0, 0), api.ErrRange},
		{1, most + 1, of(0, 0), api.ErrRange},
		{1, -most - 1, of(0, 0), api.ErrRange},
		{most + 2, 2, of(most/2+1, 1), api.OK},
		{math.MinInt, math.MinInt, of(1, 1), api.OK},
		{math.MinInt, math.MaxInt, of(0, 0), api.ErrRange},
		{math.MinInt, -1, of(0, 0), api.ErrRange},
		{math.MinInt, -1 << 32, of(most, 1), api.OK},
		{1 << 32, math.MinInt, of(-1, most), api.OK},
		{math.MaxInt, math.MaxInt, of(1, 1), api.OK},
	} {
		if a, e := ratio.Make(c.p, c.q); a != c.want || e != c.e {
			t.Errorf("Make(%d, %d) = %v and the error %d, want %v and %d", c.p, c.q, a, e, c.want, c.e)
		}
	}
}

// P4.1: any numbers
func TestMake(t *testing.T) {
	for _, p := range edgeInts() {
		for _, q := range edgeInts() {
			want, wantE := of(0, 0), api.ErrArg
			if q != 0 {
				want, wantE = refRatio(refRat(p, q))
			}
			a, e := ratio.Make(p, q)
			if a != want || e != wantE {
				t.Errorf("Make(%d, %d) = %v and the error %d, want %v and %d", p, q, a, e, want, wantE)
			}
			if !ratio.Valid(a) || e == api.OK && a.Q < 1 {
				t.Errorf("Make(%d, %d) = %v is not valid or has no positive Q", p, q, a)
			}
		}
	}
}

// P4.1: the limits, small fractions, and any numbers
func TestValid(t *testing.T) {
	for _, c := range []struct {
		a    api.Ratio
		want bool
	}{
		{of(0, 0), true}, {of(0, 1), true}, {of(0, -1), false}, {of(0, 2), false}, {of(0, most), false},
		{of(1, 0), false}, {of(-1, 0), false}, {of(1, -1), false}, {of(-1, -1), false}, {of(3, 6), false},
		{of(most, 1), true}, {of(-most, 1), true}, {of(1, most), true}, {of(-1, most), true},
		{of(most, most), false}, {of(most, most-1), true}, {of(most-1, most), true}, {of(1-most, most), true},
		{of(most+1, 1), false}, {of(-most-1, 1), false}, {of(1, most+1), false}, {of(most+1, 2), false},
		{of(math.MinInt, 1), false}, {of(1, math.MinInt), false}, {of(math.MinInt, math.MinInt), false}, {of(math.MinInt, 0), false},
	} {
		if ratio.Valid(c.a) != c.want {
			t.Errorf("Valid(%v) is %t", c.a, !c.want)
		}
	}
	for p := -30; p <= 30; p++ {
		for q := -5; q <= 30; q++ {
			if a := of(p, q); ratio.Valid(a) != refValid(a) {
				t.Errorf("Valid(%v) is %t", a, !refValid(a))
			}
		}
	}
	for _, p := range edgeInts() {
		for _, q := range edgeInts() {
			if a := of(p, q); ratio.Valid(a) != refValid(a) {
				t.Errorf("Valid(%v) is %t", a, !refValid(a))
			}
		}
	}
}

// P4.2: the examples of the document, and the limits
func TestOperationsOnKnownFractions(t *testing.T) {
	for i, c := range []struct {
		do         operation
		a, b, want api.Ratio
		e          api.Errno
	}{
		{ratio.Add, of(1, 6), of(1, 10), of(4, 15), api.OK},
		{ratio.Mul, of(2, 3), of(9, 4), of(3, 2), api.OK},
		{ratio.Add, of(most, 1), of(1, 1), of(0, 0), api.ErrRange},
		{ratio.Sub, of(-most, 1), of(1, 1), of(0, 0), api.ErrRange},
		{ratio.Sub, of(1, 2), of(1, 2), of(0, 1), api.OK},
		{ratio.Sub, of(1, 6), of(-1, 10), of(4, 15), api.OK},
		{ratio.Sub, of(0, 0), of(most, 1), of(-most, 1), api.OK},
		{ratio.Add, of(0, 0), of(0, 0), of(0, 1), api.OK},
		{ratio.Sub, of(0, 0), of(0, 0), of(0, 1), api.OK},
		{ratio.Mul, of(0, 0), of(0, 0), of(0, 1), api.OK},
		{ratio.Mul, of(0, 0), of(-most, 1), of(0, 1), api.OK},
		{ratio.Add, of(1, most), of(1, most), of(1, most/2), api.OK},
		{ratio.Add, of(1, most), of(1, most-1), of(0, 0), api.ErrRange},
		{ratio.Add, of(most, most-1), of(most-1, most), of(0, 0), api.ErrRange},
		{ratio.Sub, of(-most, most-1), of(most-1, most), of(0, 0), api.ErrRange},
		{ratio.Mul, of(most, most-1), of(most-1, most), of(1, 1), api.OK},
		{ratio.Mul, of(-most, 1), of(-1, most), of(1, 1), api.OK},
		{ratio.Mul, of(most, 1), of(2, 1), of(0, 0), api.ErrRange},
		{ratio.Mul, of(1, most), of(-1, 2), of(0, 0), api.ErrRange},
		{ratio.Add, of(2, 4), of(1, 2), of(0, 0), api.ErrArg},
		{ratio.Add, of(1, 2), of(2, 4), of(0, 0), api.ErrArg},
		{ratio.Add, of(most, 1), of(most, most), of(0, 0), api.ErrArg},
		{ratio.Sub, of(1, 1), of(math.MinInt, 1), of(0, 0), api.ErrArg},
		{ratio.Sub, of(1, 0), of(1, 1), of(0, 0), api.ErrArg},
		{ratio.Mul, of(0, 1), of(1, -1), of(0, 0), api.ErrArg},
		{ratio.Mul, of(math.MinInt, math.MinInt), of(0, 0), of(0, 0), api.ErrArg},
	} {
		if a, e := c.do(c.a, c.b); a != c.want || e != c.e {
			t.Errorf("%d: %v and %v lead to %v and the error %d, want %v and %d", i, c.a, c.b, a, e, c.want, c.e)
		}
	}
}

// P4.2: any fractions
func TestOperations(t *testing.T) {
	for _, o := range []struct {
		name string
		do   operation
		ref  func(z, x, y *big.Rat) *big.Rat
	}{
		{"Add", ratio.Add, (*big.Rat).Add},
		{"Sub", ratio.Sub, (*big.Rat).Sub},
		{"Mul", ratio.Mul, (*big.Rat).Mul},
	} {
		eachPair(anyFractions(), func(a, b api.Ratio) {
			want, wantE := of(0, 0), api.ErrArg
			if refValid(a) && refValid(b) {
				want, wantE = refRatio(o.ref(new(big.Rat), refValue(a), refValue(b)))
			}
			if c, e := o.do(a, b); c != want || e != wantE {
				t.Errorf("%s(%v, %v) = %v and the error %d, want %v and %d", o.name, a, b, c, e, want, wantE)
			}
		})
	}
}

// P4.3: any fractions
func TestCompare(t *testing.T) {
	eachPair(anyFractions(), func(a, b api.Ratio) {
		want := 0
		if refValid(a) && refValid(b) {
			want = refValue(a).Cmp(refValue(b))
		}
		if n := ratio.Compare(a, b); n != want {
			t.Errorf("Compare(%v, %v) = %d, want %d", a, b, n, want)
		}
	})
}

// P4.3: the examples of the document, and any fractions
func TestFloor(t *testing.T) {
	for _, c := range []struct {
		a    api.Ratio
		want int
	}{
		{of(-3, 2), -2}, {of(4, 15), 0}, {of(3, 2), 1}, {of(-4, 1), -4}, {of(-1, most), -1}, {of(1, most), 0},
		{of(0, 0), 0}, {of(0, 1), 0}, {of(most, 1), most}, {of(-most, 1), -most}, {of(-most, most-1), -2},
		{of(-14, 4), 0}, {of(7, 0), 0}, {of(7, -1), 0}, {of(most+1, 1), 0}, {of(math.MinInt, -1), 0},
	} {
		if n := ratio.Floor(c.a); n != c.want {
			t.Errorf("Floor(%v) = %d, want %d", c.a, n, c.want)
		}
	}
	for _, a := range anyFractions() {
		want := 0
		if refValid(a) {
			r := refValue(a)
			want = int(new(big.Int).Div(r.Num(), r.Denom()).Int64()) // rounds down, as the divisor is positive
		}
		if n := ratio.Floor(a); n != want {
			t.Errorf("Floor(%v) = %d, want %d", a, n, want)
		}
	}
}

// P4.4: the examples of the document, and the limits
func TestText(t *testing.T) {
	for _, c := range []struct {
		a    api.Ratio
		want string
	}{
		{of(-3, 2), "-3/2"}, {of(8, 1), "8"}, {of(0, 0), "0"}, {of(0, 1), "0"}, {of(-1, 1), "-1"}, {of(10, 101), "10/101"},
		{of(most, 1), "2147483648"}, {of(-most, 1), "-2147483648"}, {of(-1, most), "-1/2147483648"},
		{of(2, 4), ""}, {of(1, 0), ""}, {of(0, 2), ""}, {of(1, -2), ""}, {of(most+1, 1), ""}, {of(math.MinInt, 1), ""},
	} {
		if s := ratio.Text(c.a); s != c.want {
			t.Errorf("Text(%v) = %q, want %q", c.a, s, c.want)
		}
	}
	for _, a := range anyFractions() {
		want := ""
		if refValid(a) {
			want = refValue(a).RatString()
		}
		if s := ratio.Text(a); s != want {
			t.Errorf("Text(%v) = %q, want %q", a, s, want)
		}
	}
}

// P4.4: the limits, and what looks like a text
func TestParseOfKnownTexts(t *testing.T) {
	for s, want := range map[string]api.Ratio{
		"0": of(0, 1), "8": of(8, 1), "-3/2": of(-3, 2), "4/15": of(4, 15), "100/201": of(100, 201),
		"2147483648": of(most, 1), "-2147483648": of(-most, 1), "-1/2147483648": of(-1, most), "2147483647/2147483648": of(most-1, most),
	} {
		if a, e := ratio.Parse(s); a != want || e != api.OK {
			t.Errorf("Parse(%q) = %v and the error %d, want %v", s, a, e, want)
		}
	}
	for _, s := range []string{
		"", " ", "-", "/", "1/", "/1", "-/2", "-0", "00", "+1", "01", "1/02", "1/+2", "1/-2", "--1", "2/4", "-2/4", "0/0", "0/1", "0/2", "5/1", "1/0",
		"1/2/3", "1//2", "1 /2", "1/ 2", " 1", "1 ", "1\n", "1\x00", "1.5", "1e3", "0x1", "1_0", "0b1", "a", "1/b", "\u0661", "\u2212" + "1", "\xff",
		"2147483649", "-2147483649", "1/2147483649", "2147483650/3", "4294967296/2147483649",
		"9223372036854775807", "9223372036854775808", "-9223372036854775808", "18446744073709551617", "18446744073709551617/2",
		"1/18446744073709551618", strings.Repeat("9", 400), "1/" + strings.Repeat("9", 400), strings.Repeat("0", 1<<16) + "1",
	} {
		if a, e := ratio.Parse(s); a != of(0, 0) || e != api.ErrForm {
			t.Errorf("Parse(%q) = %v and the error %d, want ErrForm", s, a, e)
		}
	}
}

// P4.4, P4.7: all short strings of the characters of texts and of others
func TestParse(t *testing.T) {
	form := regexp.MustCompile(`^(0|-?[1-9][0-9]*)(/[1-9][0-9]*)?$`)
	var check func(s string)
	check = func(s string) {
		r, ok := new(big.Rat).SetString(s)
		ok = ok && form.MatchString(s) && r.RatString() == s
		a, e := ratio.Parse(s)
		switch {
		case !ok && (e != api.ErrForm || a != of(0, 0)):
			t.Errorf("Parse(%q) = %v and the error %d, want ErrForm", s, a, e)
		case ok && (e != api.OK || refValue(a).Cmp(r) != 0 || a.Q < 1 || ratio.Text(a) != s):
			t.Errorf("Parse(%q) = %v and the error %d, with the text %q", s, a, e, ratio.Text(a))
		}
		if len(s) < 5 {
			for _, c := range "-/+ 01269" {
				check(s + string(c))
			}
		}
	}
	check("")
}

// grouped returns (a b) c and a (b c), if all of these results exist.
func grouped(do operation, a, b, c api.Ratio) (left, right api.Ratio, ok bool) {
	ab, e1 := do(a, b)
	left, e2 := do(ab, c)
	bc, e3 := do(b, c)
	right, e4 := do(a, bc)
	return left, right, e1|e2|e3|e4 == api.OK
}

// distributed returns a (b + c) and a b + a c, if all of these results exist.
func distributed(a, b, c api.Ratio) (left, right api.Ratio, ok bool) {
	sum, e1 := ratio.Add(b, c)
	left, e2 := ratio.Mul(a, sum)
	ab, e3 := ratio.Mul(a, b)
	ac, e4 := ratio.Mul(a, c)
	right, e5 := ratio.Add(ab, ac)
	return left, right, e1|e2|e3|e4|e5 == api.OK
}

// P4.5: the order and the groups do not matter, as far as all results exist
func TestLaws(t *testing.T) {
	for name, do := range map[string]operation{"Add": ratio.Add, "Mul": ratio.Mul} {
		eachPair(anyFractions(), func(a, b api.Ratio) {
			ab, e := do(a, b)
			if ba, f := do(b, a); ab != ba || e != f {
				t.Errorf("%s of %v and %v is %v one way and %v the other", name, a, b, ab, ba)
			}
		})
		eachPair(fractions(), func(a, b api.Ratio) {
			for _, c := range []api.Ratio{of(-7, 3), of(1, 2), of(6, 5), of(most, 1), of(-most, 1), of(1, most), of(1-most, most)} {
				if left, right, ok := grouped(do, a, b, c); ok && left != right {
					t.Errorf("%s of %v, %v and %v is %v or %v", name, a, b, c, left, right)
				}
				if left, right, ok := distributed(a, b, c); ok && left != right {
					t.Errorf("%v (%v + %v) is %v or %v", a, b, c, left, right)
				}
			}
		})
	}
	eachPair(fractions(), func(a, b api.Ratio) {
		difference, e := ratio.Sub(a, b)
		if e != api.OK {
			return
		}
		if c, e := ratio.Add(difference, b); e != api.OK || ratio.Compare(c, a) != 0 {
			t.Errorf("%v - %v + %v is %v, with the error %d", a, b, b, c, e)
		}
	})
}

// P4.6: differences, both ways, and sums with the same fraction
func TestOrder(t *testing.T) {
	eachPair(fractions(), func(a, b api.Ratio) {
		n := ratio.Compare(a, b)
		difference, e := ratio.Sub(a, b)
		if isZero := e == api.OK && difference == of(0, 1); isZero != (n == 0) {
			t.Errorf("Compare(%v, %v) is %d, but the difference is %v", a, b, n, difference)
		}
		if back := ratio.Compare(b, a); back != -n {
			t.Errorf("Compare(%v, %v) is %d, and the other way %d", a, b, n, back)
		}
		for _, c := range []api.Ratio{of(0, 0), of(-7, 3), of(1, 2), of(1<<30, 1), of(-most, 1), of(1, 1<<30)} {
			x, e := ratio.Add(a, c)
			y, f := ratio.Add(b, c)
			if e == api.OK && f == api.OK && ratio.Compare(x, y) != n {
				t.Errorf("Compare(%v, %v) is %d, and with %v added %d", a, b, n, c, ratio.Compare(x, y))
			}
		}
	})
}

// P4.6: a fraction is between its Floor and the next integer
func TestFloorIsNear(t *testing.T) {
	for _, a := range fractions() {
		floor := ratio.Floor(a)
		if ratio.Compare(of(floor, 1), a) > 0 || floor < most && ratio.Compare(a, of(floor+1, 1)) >= 0 {
			t.Errorf("Floor(%v) is %d", a, floor)
		}
	}
}

// P4.7
func TestTextsAreRead(t *testing.T) {
	for _, a := range fractions() {
		if b, e := ratio.Parse(ratio.Text(a)); e != api.OK || ratio.Compare(a, b) != 0 || b.Q < 1 {
			t.Errorf("Parse(%q) = %v and the error %d", ratio.Text(a), b, e)
		}
	}
	eachPair(fractions(), func(a, b api.Ratio) {
		if same := ratio.Text(a) == ratio.Text(b); same != (ratio.Compare(a, b) == 0) {
			t.Errorf("the texts of %v and %v are %q and %q", a, b, ratio.Text(a), ratio.Text(b))
		}
	})
}

// P4.8: also where the result is an error
func TestCommonFactorsDoNotMatter(t *testing.T) {
	// times returns a product, if it is an integer of 64 bits.
	times := func(n, k int) (int, bool) {
		product := new(big.Int).Mul(big.NewInt(int64(n)), big.NewInt(int64(k)))
		return int(product.Int64()), product.IsInt64()
	}
	for _, p := range edgeInts() {
		for _, q := range edgeInts() {
			want, wantE := ratio.Make(p, q)
			for _, k := range append(edgeInts(), 2, -2, 3, 12, 1<<20) {
				pk, pOK := times(p, k)
				qk, qOK := times(q, k)
				if k == 0 || !pOK || !qOK {
					continue
				}
				if a, e := ratio.Make(pk, qk); a != want || e != wantE {
					t.Errorf("Make(%d, %d) = %v and the error %d, and with the factor %d %v and %d", p, q, want, wantE, k, a, e)
				}
			}
		}
	}
}
