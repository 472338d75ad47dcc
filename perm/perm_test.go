package perm_test

import (
	"math"
	"slices"
	"strings"
	"testing"

	"diorama/api"
	"diorama/draw"
	"diorama/perm"
)

// source is what a permutation follows from, beside its size.
type source struct {
	seed string
	path []int
}

// goodSources are those of permutations.
func goodSources() []source {
	return []source{
		{"", nil}, {"", []int{}}, {"", []int{0}}, {"seed", []int{1, 2}}, {"seed", []int{2, 1}}, {"seed\x00", []int{-1, 65536}},
		{strings.Repeat("\xff", 32), []int{math.MaxInt, math.MinInt, 1, 2, 3, 4, 5, 6}}, {strings.Repeat("s", 31), make([]int, 7)},
	}
}

// badSources exceed a limit.
func badSources() []source {
	return []source{
		{strings.Repeat("s", 33), nil}, {"", make([]int, 9)}, {strings.Repeat("s", 33), make([]int, 9)}, {strings.Repeat("s", 1000), []int{1}}, {"seed", make([]int, 1000)},
		{strings.Repeat("s", 33), make([]int, 8)}, {strings.Repeat("s", 32), make([]int, 9)},
	}
}

// ns are numbers of which there are permutations: all small ones, and those beside the ends of sizes.
func ns() []int {
	l := []int{100, 255, 256, 257, 1000, 1023, 1024, 1025}
	for n := 1; n <= 70; n++ {
		l = append(l, n)
	}
	return l
}

// refBase is the B of n numbers by its definition.
func refBase(n int) int {
	b := 0
	for int(math.Pow(4, float64(b))) < n {
		b++
	}
	return 1 << b
}

// refMix is the mixing of x by its definition.
func refMix(s source, b, x int) int {
	pair := [2]int{x / b, x % b}
	for r := range 4 {
		f := draw.Word(s.seed, s.path, 65536*r+pair[1]) % b
		pair = [2]int{pair[1], pair[0] ^ f}
	}
	return pair[0]*b + pair[1]
}

// refPlaces are the places of n numbers by their definition.
func refPlaces(s source, n int) []int {
	b := refBase(n)
	mixed := make([]int, b*b)
	for x := range mixed {
		mixed[x] = refMix(s, b, x)
	}
	l := make([]int, n)
	for i := range l {
		x := mixed[i]
		for x >= n {
			x = mixed[x]
		}
		l[i] = x
	}
	return l
}

// mustAll returns the places of n numbers.
func mustAll(t *testing.T, s source, n int) []int {
	t.Helper()
	l, e := perm.All(s.seed, s.path, n)
	if e != api.OK || len(l) != n {
		t.Fatalf("All(%q, %v, %d) has %d places, and the error %d", s.seed, s.path, n, len(l), e)
	}
	return l
}

// P6.1, P6.2: places that another program computed from the definition; the last ones are mixed 9, 23 and 27 times
func TestKnownPlaces(t *testing.T) {
	longest := []int{math.MinInt, math.MaxInt, -1, 0, 1, 2, 3, 4}
	for _, c := range []struct {
		seed        string
		path        []int
		n, i, place int
	}{
		{"", nil, 1, 0, 0}, {"", nil, 65536, 0, 36379}, {"", nil, 65536, 65535, 59841}, {"", nil, 65536, 40000, 56009}, {"", nil, 16385, 16384, 14291}, {"", nil, 16384, 16383, 13724}, {"", nil, 1000, 999, 597},
		{strings.Repeat("s", 32), longest, 65536, 1, 16908}, {strings.Repeat("s", 32), longest, 50000, 49999, 26950}, {strings.Repeat("s", 32), longest, 257, 256, 150}, {strings.Repeat("s", 32), longest, 2, 1, 1},
		{"seed", []int{1, 2}, 17, 4, 0}, {"seed", []int{1, 2}, 257, 27, 214}, {"seed", []int{1, 2}, 16385, 126, 2080},
	} {
		if x, e := perm.At(c.seed, c.path, c.n, c.i); x != c.place || e != api.OK {
			t.Errorf("At(%q, %v, %d, %d) = %d and the error %d, want %d", c.seed, c.path, c.n, c.i, x, e, c.place)
		}
		if i, e := perm.Back(c.seed, c.path, c.n, c.place); i != c.i || e != api.OK {
			t.Errorf("Back(%q, %v, %d, %d) = %d and the error %d, want %d", c.seed, c.path, c.n, c.place, i, e, c.i)
		}
	}
}

// P6.3: permutations that another program computed from the definition
func TestKnownPermutations(t *testing.T) {
	s := source{"seed", []int{1, 2}}
	for _, want := range [][]int{
		{0}, {0, 1}, {2, 1, 0}, {3, 1, 0, 2}, {3, 0, 1, 4, 2}, {8, 0, 5, 4, 6, 9, 2, 7, 3, 1}, {8, 11, 5, 7, 0, 4, 9, 10, 12, 1, 16, 6, 14, 3, 2, 15, 13},
	} {
		if all := mustAll(t, s, len(want)); !slices.Equal(all, want) {
			t.Errorf("the places of %d numbers are %v, want %v", len(want), all, want)
		}
	}
}

// P6.1, P6.2, P6.3: the places by their definition
func TestPlaces(t *testing.T) {
	for _, s := range goodSources() {
		for _, n := range ns() {
			want := refPlaces(s, n)
			if all := mustAll(t, s, n); !slices.Equal(all, want) {
				t.Errorf("All(%q, %v, %d) = %v, want %v", s.seed, s.path, n, all, want)
			}
			for i, place := range want {
				if x, e := perm.At(s.seed, s.path, n, i); x != place || e != api.OK {
					t.Errorf("At(%q, %v, %d, %d) = %d and the error %d, want %d", s.seed, s.path, n, i, x, e, place)
				}
				if back, e := perm.Back(s.seed, s.path, n, place); back != i || e != api.OK {
					t.Errorf("Back(%q, %v, %d, %d) = %d and the error %d, want %d", s.seed, s.path, n, place, back, e, i)
				}
			}
		}
	}
}

// P6.4: also for as many numbers as there may be, and for those of which most are mixed several times
func TestPermutation(t *testing.T) {
	for _, n := range []int{4096, 4097, 16383, 16384, 16385, 50000, 65535, 65536} {
		s := source{"large", []int{n}}
		all := mustAll(t, s, n)
		seen := make([]bool, n)
		for _, place := range all {
			if place < 0 || place >= n || seen[place] {
				t.Fatalf("among %d numbers the place %d is not one of them, or that of two", n, place)
			}
			seen[place] = true
		}
		for i := 0; i < n; i += 97 {
			x, e := perm.At(s.seed, s.path, n, i)
			back, f := perm.Back(s.seed, s.path, n, all[i])
			if x != all[i] || back != i || e != api.OK || f != api.OK {
				t.Errorf("among %d numbers %d has the place %d or %d, and %d leads back to %d, with the errors %d and %d", n, i, x, all[i], all[i], back, e, f)
			}
		}
	}
}

// P6.4: Back, too, leads to each number once, and At back from it
func TestBackAndForth(t *testing.T) {
	s := source{"back", []int{3}}
	for _, n := range ns() {
		numbers := make([]int, n)
		for x := range n {
			i, e := perm.Back(s.seed, s.path, n, x)
			place, f := perm.At(s.seed, s.path, n, i)
			if place != x || e != api.OK || f != api.OK {
				t.Errorf("among %d numbers %d leads back to %d, whose place is %d, with the errors %d and %d", n, x, i, place, e, f)
			}
			numbers[x] = i
		}
		slices.Sort(numbers)
		for i, number := range numbers {
			if number != i {
				t.Fatalf("among %d numbers those that are led back to are %v", n, numbers)
			}
		}
	}
}

// P6.5, T1: whatever was asked for before, forwards or backwards, in any order
func TestAlone(t *testing.T) {
	s := source{"alone", []int{9, 8, 7}}
	n := 300
	all := mustAll(t, s, n)
	for i := n - 1; i >= 0; i -= 2 {
		other, _ := perm.At("other", s.path, n, i)
		perm.Back(s.seed, s.path, n, other)
		mustAll(t, s, i)
		if x, e := perm.At(s.seed, s.path, n, i); x != all[i] || e != api.OK {
			t.Errorf("the place of %d is %d, and then %d, with the error %d", i, all[i], x, e)
		}
	}
	if again := mustAll(t, s, n); !slices.Equal(again, all) {
		t.Errorf("the places are %v, and then %v", all, again)
	}
}

// P6.5: other seeds and paths have other permutations
func TestSourcesDiffer(t *testing.T) {
	seen := [][]int{}
	for _, s := range []source{{"", nil}, {"", []int{0}}, {"", []int{0, 0}}, {"\x00", nil}, {"a", nil}, {"a", []int{1, 2}}, {"a", []int{2, 1}}, {"a", []int{12}}} {
		all := mustAll(t, s, 60)
		for _, other := range seen {
			if slices.Equal(all, other) {
				t.Errorf("%q and %v have the places %v of others", s.seed, s.path, all)
			}
		}
		seen = append(seen, all)
	}
}

// P6.6: by hand, with exclusive or of bits
func TestDraws(t *testing.T) {
	for _, s := range goodSources() {
		for x := range 4 {
			bit := func(r, right int) int { return draw.Word(s.seed, s.path, 65536*r+right) & 1 }
			a, b := x>>1, x&1
			c := a ^ bit(0, b)
			d := b ^ bit(1, c)
			e := c ^ bit(2, d)
			f := d ^ bit(3, e)
			if place, err := perm.At(s.seed, s.path, 4, x); place != 2*e+f || err != api.OK {
				t.Errorf("At(%q, %v, 4, %d) = %d and the error %d, want %d", s.seed, s.path, x, place, err, 2*e+f)
			}
		}
	}
}

// P6.7
func TestSameSize(t *testing.T) {
	for _, s := range goodSources() {
		for _, sizes := range [][2]int{{1, 1}, {2, 4}, {5, 16}, {17, 64}} {
			for n := sizes[0]; n <= sizes[1]; n++ {
				all := mustAll(t, s, n)
				for m := sizes[0]; m < n; m++ {
					fewer := mustAll(t, s, m)
					for i, place := range fewer {
						if all[i] < m && all[i] != place {
							t.Errorf("%q and %v give %d of %d the place %d, and of %d the place %d", s.seed, s.path, i, n, all[i], m, place)
						}
					}
				}
			}
		}
	}
}

// P6.1, P6.2: the errors and their order
func TestAtAndBackRefuse(t *testing.T) {
	refused := func(s source, n, i int, want api.Errno) {
		t.Helper()
		if x, e := perm.At(s.seed, s.path, n, i); x != 0 || e != want {
			t.Errorf("At of %d bytes, %d numbers, %d and %d is %d, with the error %d, want %d", len(s.seed), len(s.path), n, i, x, e, want)
		}
		if x, e := perm.Back(s.seed, s.path, n, i); x != 0 || e != want {
			t.Errorf("Back of %d bytes, %d numbers, %d and %d is %d, with the error %d, want %d", len(s.seed), len(s.path), n, i, x, e, want)
		}
	}
	anyNumber := []int{0, 1, -1, 4, 5, 6, 65535, 65536, 65537, math.MaxInt, math.MinInt}
	for _, s := range badSources() {
		for _, n := range anyNumber {
			for _, i := range anyNumber {
				refused(s, n, i, api.ErrLimit)
			}
		}
	}
	for _, s := range goodSources() {
		for _, i := range anyNumber {
			for _, n := range []int{65537, 65538, 1 << 32, math.MaxInt} {
				refused(s, n, i, api.ErrLimit)
			}
			for _, n := range []int{0, -1, -5, math.MinInt} {
				refused(s, n, i, api.ErrArg)
			}
		}
		for _, n := range []int{1, 2, 5, 16, 17, 65535, 65536} {
			for _, i := range []int{-1, -n, n, n + 1, 65536, 1 << 32, math.MaxInt, math.MinInt} {
				refused(s, n, i, api.ErrArg)
			}
		}
	}
}

// P6.1, P6.2: the last numbers that are not refused
func TestAtAndBackAccept(t *testing.T) {
	for _, s := range goodSources() {
		for _, n := range []int{1, 2, 5, 16, 17, 65535, 65536} {
			for _, i := range []int{0, n - 1} {
				x, e := perm.At(s.seed, s.path, n, i)
				back, f := perm.Back(s.seed, s.path, n, x)
				if back != i || x < 0 || x >= n || e != api.OK || f != api.OK {
					t.Errorf("At(%q, %v, %d, %d) is %d, and Back from it %d, with the errors %d and %d", s.seed, s.path, n, i, x, back, e, f)
				}
			}
		}
	}
}

// P6.3: the errors and their order, and that there are no places of no numbers
func TestAllRefuses(t *testing.T) {
	refused := func(s source, n int, want api.Errno) {
		t.Helper()
		if l, e := perm.All(s.seed, s.path, n); len(l) != 0 || e != want {
			t.Errorf("All of %d bytes, %d numbers and %d has %d places, and the error %d, want %d", len(s.seed), len(s.path), n, len(l), e, want)
		}
	}
	for _, s := range badSources() {
		for _, n := range []int{0, 1, -1, 5, 65536, 65537, math.MaxInt, math.MinInt} {
			refused(s, n, api.ErrLimit)
		}
	}
	for _, s := range goodSources() {
		refused(s, 0, api.OK)
		for _, n := range []int{-1, -2, -65537, math.MinInt} {
			refused(s, n, api.ErrArg)
		}
		for _, n := range []int{65537, 1 << 32, math.MaxInt} {
			refused(s, n, api.ErrLimit)
		}
	}
}

// P6.1, P6.2, P6.3: the memory behind a path is not written, and results are new
func TestMemory(t *testing.T) {
	path := []int{4, 5, 6, 7, 8}
	s := source{"seed", path[:2]}
	perm.At(s.seed, s.path, 10, 3)
	perm.Back(s.seed, s.path, 10, 3)
	all := mustAll(t, s, 10)
	if !slices.Equal(path, []int{4, 5, 6, 7, 8}) {
		t.Errorf("the path became %v", path)
	}
	want := slices.Clone(all)
	clear(all)
	if again := mustAll(t, s, 10); !slices.Equal(again, want) {
		t.Errorf("the places are %v, and after these were changed %v", want, again)
	}
}
