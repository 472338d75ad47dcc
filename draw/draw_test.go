package draw_test

import (
	"crypto/sha256"
	"math"
	"math/big"
	"slices"
	"strings"
	"testing"

	"diorama/api"
	"diorama/draw"
	"diorama/wire"
)

const (
	// words is the number of words.
	words = 1 << 48
	// most is the greatest n of a draw below n.
	most = 1 << 40
	// oftenRefused is an n for which nearly 1 word in 257 is not accepted, as many as possible.
	oftenRefused = words/257 + 1
)

// source is what a draw follows from.
type source struct {
	seed string
	path []int
}

// goodSources are those of draws that are valid.
func goodSources() []source {
	l := []source{
		{"", nil}, {"", []int{}}, {"", []int{0}}, {"", []int{0, 0}}, {"a", nil}, {"a\x00", nil}, {"seed", []int{1, 2, 3}}, {"seed", []int{3, 2, 1}}, {"seed", []int{-1, 255, 256, -257}},
		{strings.Repeat("\xff", 32), []int{math.MaxInt, math.MinInt, 1, 2, 3, 4, 5, 6}}, {strings.Repeat("s", 31), make([]int, 7)},
	}
	for i := range 40 {
		l = append(l, source{"more", []int{i}})
	}
	return l
}

// badSources are those of draws that are not valid.
func badSources() []source {
	return []source{
		{strings.Repeat("s", 33), nil}, {"", make([]int, 9)}, {strings.Repeat("s", 33), make([]int, 9)}, {strings.Repeat("s", 1000), []int{1}}, {"seed", make([]int, 1000)},
		{strings.Repeat("s", 33), make([]int, 8)}, {strings.Repeat("s", 32), make([]int, 9)},
	}
}

// ns are numbers below which there are draws.
func ns() []int {
	return []int{1, 2, 3, 4, 5, 6, 7, 10, 12, 255, 256, 257, 1000, 1 << 20, 1<<20 + 1, 1 << 31, 1<<39 - 1, 1 << 39, 1<<39 + 1, oftenRefused - 1, oftenRefused, most - 1, most}
}

// refWord is the word by its definition.
func refWord(seed string, path []int, try int) int {
	text := append([]byte{8}, wire.Bytes(seed)...)
	text = append(text, wire.Bytes(string(wire.Ints(append(slices.Clone(path), try))))...)
	sum := sha256.Sum256(text)
	return int(new(big.Int).SetBytes(sum[:6]).Int64())
}

// refBelow is the draw below n by its definition.
func refBelow(seed string, path []int, n int) int {
	try := 0
	for refWord(seed, path, try) >= words-words%n {
		try++
	}
	return refWord(seed, path, try) % n
}

// P5.1: words that another program computed from the definition
func TestKnownWords(t *testing.T) {
	all := make([]byte, 256)
	for i := range all {
		all[i] = byte(i)
	}
	for _, c := range []struct {
		seed string
		path []int
		try  int
		want int
	}{
		{"", nil, 0, 268279158513291}, {"", []int{}, 1, 194549926291984},
		{"seed", []int{1, 2, 3}, 0, 39568922110866}, {"seed", []int{1, 2, 3}, -1, 20984021917406},
		{strings.Repeat("s", 33), make([]int, 9), math.MaxInt, 106341036471897},
		{string(all), []int{-1, math.MinInt, math.MaxInt, 256}, math.MinInt, 163886101945711},
	} {
		if w := draw.Word(c.seed, c.path, c.try); w != c.want {
			t.Errorf("Word(%q, %v, %d) = %d, want %d", c.seed, c.path, c.try, w, c.want)
		}
	}
}

// P5.1: also for draws that are not valid
func TestWord(t *testing.T) {
	for _, s := range append(goodSources(), badSources()...) {
		for _, try := range []int{0, 1, 2, 127, 255, 256, 65536, -1, -256, -257, math.MaxInt, math.MinInt} {
			w := draw.Word(s.seed, s.path, try)
			if want := refWord(s.seed, s.path, try); w != want || w < 0 || w >= words {
				t.Errorf("Word(%q, %v, %d) = %d, want %d", s.seed, s.path, try, w, want)
			}
		}
	}
}

// P5.1: seeds, paths and tries are told apart, also where they hold the same numbers
func TestWordsDiffer(t *testing.T) {
	seen := map[int]bool{}
	for _, w := range []int{
		draw.Word("", nil, 0), draw.Word("", []int{0}, 0), draw.Word("", []int{0, 0}, 0), draw.Word("\x00", nil, 0), draw.Word("\x00", []int{0}, 0),
		draw.Word("", nil, 1), draw.Word("", []int{1}, 0), draw.Word("", []int{0}, 1), draw.Word("", []int{1, 0}, 1), draw.Word("", []int{0, 1}, 1), draw.Word("1", nil, 1),
	} {
		if seen[w] {
			t.Errorf("two draws have the word %d", w)
		}
		seen[w] = true
	}
}

// P5.1: the memory behind a path is not written
func TestArgumentsAreNotChanged(t *testing.T) {
	path := []int{4, 5, 6, 7, 8}
	weights := []int{0, 3, 4, 5, 6}
	draw.Word("seed", path[:2], 9)
	draw.Num("seed", path[:2], 10)
	draw.Between("seed", path[:2], -10, 10)
	draw.Pick("seed", path[:2], weights[:3])
	draw.Coin("seed", path[:2], api.Ratio{P: 1, Q: 3})
	if !slices.Equal(path, []int{4, 5, 6, 7, 8}) || !slices.Equal(weights, []int{0, 3, 4, 5, 6}) {
		t.Errorf("the path became %v, the weights %v", path, weights)
	}
}

// P5.2: draws that another program computed; of the last ones the first try or the first two are not accepted
func TestKnownNums(t *testing.T) {
	lowest := slices.Repeat([]int{math.MinInt}, 8)
	for _, c := range []struct {
		seed string
		path []int
		n    int
		want int
	}{
		{"", nil, 1, 0}, {"", nil, 10, 1}, {"seed", []int{1, 2, 3}, 1000, 866}, {"seed", []int{1, 2, 3}, most, 1086015138706}, {strings.Repeat("s", 32), lowest, most - 1, 449379501886},
		{"tries", []int{0}, oftenRefused, 128311181551}, {"tries", []int{352}, oftenRefused, 781276769060}, {"tries", []int{5131}, oftenRefused, 807965376404},
	} {
		if number, e := draw.Num(c.seed, c.path, c.n); number != c.want || e != api.OK {
			t.Errorf("Num(%q, %v, %d) = %d and the error %d, want %d", c.seed, c.path, c.n, number, e, c.want)
		}
	}
}

// P5.2, P5.6, P5.10: the first words of some draws are the last ones that are accepted, and the first ones that are not
func TestLastAcceptedWord(t *testing.T) {
	for _, c := range []struct{ place, n, afterEnd, want int }{
		{606, 795337859266, -1, 795337859265}, {701, 479264772825, -1, 479264772824}, {4686, 645695474939, -1, 645695474938},
		{665, 1043919541732, 0, 409687685600}, {701, 983665809959, 0, 550743675146}, {1043, 900133769193, 0, 344055408898},
	} {
		path := []int{c.place}
		if after := draw.Word("edge", path, 0) - words/c.n*c.n; after != c.afterEnd {
			t.Errorf("the word of %d is %d after the end for %d, want %d", c.place, after, c.n, c.afterEnd)
		}
		if number, e := draw.Num("edge", path, c.n); number != c.want || e != api.OK {
			t.Errorf("Num(%q, %v, %d) = %d and the error %d, want %d", "edge", path, c.n, number, e, c.want)
		}
	}
}

// P5.2, P5.6
func TestNum(t *testing.T) {
	for _, s := range goodSources() {
		for _, n := range ns() {
			number, e := draw.Num(s.seed, s.path, n)
			if want := refBelow(s.seed, s.path, n); number != want || number < 0 || number >= n || e != api.OK {
				t.Errorf("Num(%q, %v, %d) = %d and the error %d, want %d", s.seed, s.path, n, number, e, want)
			}
		}
	}
}

// P5.10: with an n for which many words are not accepted
func TestNumThatIsOftenTriedAgain(t *testing.T) {
	again := 0
	for i := range 3000 {
		path := []int{i, 1}
		number, e := draw.Num("again", path, oftenRefused)
		if want := refBelow("again", path, oftenRefused); number != want || e != api.OK {
			t.Errorf("Num(%v) = %d and the error %d, want %d", path, number, e, want)
		}
		if number != draw.Word("again", path, 0)%oftenRefused {
			again++
		}
	}
	if again == 0 || again > 40 {
		t.Errorf("%d of 3000 draws were tried again", again)
	}
}

// P5.10: all words are accepted for an n that divides their number
func TestPowersOf2AreNotTriedAgain(t *testing.T) {
	for i := range 3000 {
		path := []int{i, 2}
		for _, n := range []int{1, 1 << 39, most} {
			if number, e := draw.Num("again", path, n); number != draw.Word("again", path, 0)%n || e != api.OK {
				t.Errorf("Num(%v, %d) = %d and the error %d", path, n, number, e)
			}
		}
	}
}

// P5.10: each number is drawn about equally often
func TestNumIsFair(t *testing.T) {
	for _, n := range []int{2, 3, 7, 10} {
		counts := make([]int, n)
		for i := range 1000 * n {
			number, _ := draw.Num("fair", []int{i}, n)
			counts[number]++
		}
		for number, count := range counts {
			if count < 850 || count > 1150 {
				t.Errorf("%d of %d draws below %d are %d", count, 1000*n, n, number)
			}
		}
	}
}

// P5.2: the errors and their order
func TestNumRefuses(t *testing.T) {
	wrong := []int{0, -1, -2, most + 1, most * 2, words, words + 1, math.MaxInt, math.MinInt, -most}
	for _, s := range badSources() {
		for _, n := range append(ns(), wrong...) {
			if number, e := draw.Num(s.seed, s.path, n); number != 0 || e != api.ErrArg {
				t.Errorf("Num of %d bytes, %d numbers and %d is %d, with the error %d", len(s.seed), len(s.path), n, number, e)
			}
		}
	}
	for _, s := range goodSources() {
		for _, n := range wrong {
			if number, e := draw.Num(s.seed, s.path, n); number != 0 || e != api.ErrRange {
				t.Errorf("Num(%q, %v, %d) is %d, with the error %d", s.seed, s.path, n, number, e)
			}
		}
	}
}

// goodEnds are lo and hi of draws between them.
func goodEnds() [][2]int {
	return [][2]int{
		{0, 0}, {7, 7}, {-7, -7}, {0, 1}, {-1, 0}, {-1, 1}, {-5, 14}, {3, 1000}, {-1000, -3}, {0, most - 1}, {1, most}, {-most, -1}, {-most, -most}, {most, most},
		{1 - most, 0}, {-most / 2, most/2 - 1}, {-most / 2, oftenRefused - most/2 - 1}, {-1 << 20, 1 << 20},
	}
}

// P5.3, P5.6
func TestBetween(t *testing.T) {
	for _, s := range goodSources() {
		for _, ends := range goodEnds() {
			lo, hi := ends[0], ends[1]
			number, e := draw.Between(s.seed, s.path, lo, hi)
			if want := lo + refBelow(s.seed, s.path, hi-lo+1); number != want || number < lo || number > hi || e != api.OK {
				t.Errorf("Between(%q, %v, %d, %d) = %d and the error %d, want %d", s.seed, s.path, lo, hi, number, e, want)
			}
		}
	}
}

// P5.3: the errors and their order; differences that wrap around are among them
func TestBetweenRefuses(t *testing.T) {
	wrong := [][2]int{
		{1, 0}, {0, -1}, {3, 2}, {most, -most}, {most, most - 1}, {0, most}, {-most, 0}, {-most, most}, {-1, most - 1}, {1 - most, 1}, {-most / 2, most / 2},
		{most + 1, most + 1}, {-most - 1, -most - 1}, {most, most + 1}, {-most - 1, -most}, {most - 1, most + 1},
		{math.MinInt, math.MaxInt}, {math.MaxInt, math.MinInt}, {math.MinInt, math.MinInt}, {math.MaxInt, math.MaxInt}, {math.MinInt, 0}, {0, math.MaxInt}, {1, math.MinInt}, {math.MaxInt - 5, math.MaxInt},
	}
	for _, s := range badSources() {
		for _, ends := range append(goodEnds(), wrong...) {
			if number, e := draw.Between(s.seed, s.path, ends[0], ends[1]); number != 0 || e != api.ErrArg {
				t.Errorf("Between of %d bytes, %d numbers and %v is %d, with the error %d", len(s.seed), len(s.path), ends, number, e)
			}
		}
	}
	for _, s := range goodSources() {
		for _, ends := range wrong {
			if number, e := draw.Between(s.seed, s.path, ends[0], ends[1]); number != 0 || e != api.ErrRange {
				t.Errorf("Between(%q, %v, %v) is %d, with the error %d", s.seed, s.path, ends, number, e)
			}
		}
	}
}

// P5.7
func TestMoved(t *testing.T) {
	for _, s := range goodSources() {
		for _, ends := range goodEnds() {
			lo, hi := ends[0], ends[1]
			number, _ := draw.Between(s.seed, s.path, lo, hi)
			for _, by := range []int{1, -1, 10, -1000, -lo, -hi, most - hi, -most - lo} {
				if lo+by < -most || hi+by > most {
					continue
				}
				if moved, e := draw.Between(s.seed, s.path, lo+by, hi+by); moved != number+by || e != api.OK {
					t.Errorf("Between(%q, %v, %d, %d) is %d, and moved by %d it is %d, with the error %d", s.seed, s.path, lo, hi, number, by, moved, e)
				}
			}
		}
		if number, e := draw.Num(s.seed, s.path, 1); number != 0 || e != api.OK {
			t.Errorf("Num(%q, %v, 1) is %d, with the error %d", s.seed, s.path, number, e)
		}
	}
}

// goodWeights are weights of which an index can be picked.
func goodWeights() [][]int {
	rising := make([]int, 64)
	for i := range rising {
		rising[i] = i
	}
	return [][]int{
		{1}, {5}, {1 << 20}, {0, 5, 0}, {0, 0, 1}, {1, 0, 0}, {1, 1}, {1, 2}, {2, 1}, {3, 0, 1}, {0, 2, 0, 5, 3, 0}, {1 << 20, 1, 1 << 20}, {1, 1 << 20},
		rising, slices.Repeat([]int{1}, 64), slices.Repeat([]int{1 << 20}, 64), append(make([]int, 63), 1), append([]int{1}, make([]int, 63)...), slices.Repeat([]int{0, 1}, 32),
	}
}

// refPick is the index of a draw, found from the end: the weights before it are at most the draw.
func refPick(seed string, path []int, weights []int) int {
	before := 0
	for _, weight := range weights {
		before += weight
	}
	drawn, index := refBelow(seed, path, before), len(weights)
	for before > drawn {
		index--
		before -= weights[index]
	}
	return index
}

// P5.4, P5.6
func TestPick(t *testing.T) {
	for _, s := range goodSources() {
		for _, weights := range goodWeights() {
			index, e := draw.Pick(s.seed, s.path, weights)
			if want := refPick(s.seed, s.path, weights); index != want || weights[index] == 0 || e != api.OK {
				t.Errorf("Pick(%q, %v, %v) = %d and the error %d, want %d", s.seed, s.path, weights, index, e, want)
			}
		}
	}
}

// P5.4: draws below 10 that another program computed
func TestKnownPicks(t *testing.T) {
	for i, drawn := range []int{7, 9, 5, 0, 6, 5, 6, 2, 5, 6, 4, 3, 8, 8, 4, 1, 1, 8, 1, 3} {
		want := []int{1, 1, 3, 3, 3, 3, 3, 4, 4, 4}[drawn]
		if index, e := draw.Pick("pick", []int{i}, []int{0, 2, 0, 5, 3, 0}); index != want || e != api.OK {
			t.Errorf("Pick of %d is %d and the error %d, want %d", i, index, e, want)
		}
	}
}

// P5.4: the errors and their order; sums that wrap around are among them
func TestPickRefuses(t *testing.T) {
	wrong := [][]int{
		nil, {}, {0}, {0, 0}, make([]int, 64), make([]int, 65), slices.Repeat([]int{1}, 65), append(make([]int, 64), 1), append([]int{1}, make([]int, 64)...), slices.Repeat([]int{1}, 1000),
		{-1}, {3, -1}, {-1, 3}, {5, 0, -5}, {1<<20 + 1}, {1, 1<<20 + 1}, {1<<20 + 1, 1}, {most}, {math.MaxInt, math.MaxInt, 5}, {math.MinInt, math.MinInt, 5}, {math.MinInt, math.MaxInt, 2}, {math.MinInt},
	}
	for _, s := range badSources() {
		for _, weights := range append(goodWeights(), wrong...) {
			if index, e := draw.Pick(s.seed, s.path, weights); index != 0 || e != api.ErrArg {
				t.Errorf("Pick of %d bytes, %d numbers and %v is %d, with the error %d", len(s.seed), len(s.path), weights, index, e)
			}
		}
	}
	for _, s := range goodSources() {
		for _, weights := range wrong {
			if index, e := draw.Pick(s.seed, s.path, weights); index != 0 || e != api.ErrRange {
				t.Errorf("Pick(%q, %v, %v) is %d, with the error %d", s.seed, s.path, weights, index, e)
			}
		}
	}
}

// P5.8
func TestWeights(t *testing.T) {
	for _, s := range goodSources() {
		for n := 1; n <= 64; n++ {
			number, _ := draw.Num(s.seed, s.path, n)
			if index, e := draw.Pick(s.seed, s.path, slices.Repeat([]int{1}, n)); index != number || e != api.OK {
				t.Errorf("Pick(%q, %v) of %d equal weights is %d, with the error %d, and Num %d", s.seed, s.path, n, index, e, number)
			}
		}
		for _, weights := range goodWeights() {
			index, _ := draw.Pick(s.seed, s.path, weights)
			for len(weights) < 64 {
				weights = append(weights[:len(weights):len(weights)], 0)
				if longer, e := draw.Pick(s.seed, s.path, weights); longer != index || e != api.OK {
					t.Errorf("Pick(%q, %v, %v) is %d, with the error %d, and without zeros at the end %d", s.seed, s.path, weights, longer, e, index)
				}
			}
		}
	}
}

// goodChances are those from 0 to 1.
func goodChances() []api.Ratio {
	l := []api.Ratio{{}, {P: 0, Q: 1}, {P: 1, Q: 1}, {P: 1, Q: 1 << 31}, {P: 1<<31 - 1, Q: 1 << 31}, {P: 1 << 30, Q: 1<<31 - 1}, {P: 1, Q: 1 << 20}}
	for q := 2; q <= 20; q++ {
		for p := 1; p < q; p++ {
			if new(big.Int).GCD(nil, nil, big.NewInt(int64(p)), big.NewInt(int64(q))).Int64() == 1 {
				l = append(l, api.Ratio{P: p, Q: q})
			}
		}
	}
	return l
}

// P5.5: also that 0 is never true, and 1 always
func TestCoin(t *testing.T) {
	for _, s := range goodSources() {
		for _, chance := range goodChances() {
			is, e := draw.Coin(s.seed, s.path, chance)
			if want := refBelow(s.seed, s.path, max(chance.Q, 1)) < chance.P; is != want || e != api.OK {
				t.Errorf("Coin(%q, %v, %v) = %t and the error %d, want %t", s.seed, s.path, chance, is, e, want)
			}
			if is && chance.P == 0 || !is && chance.P == chance.Q && chance.P == 1 {
				t.Errorf("Coin(%q, %v, %v) is %t", s.seed, s.path, chance, is)
			}
		}
	}
}

// P5.5: the errors and their order
func TestCoinRefuses(t *testing.T) {
	wrong := []api.Ratio{
		{P: 3, Q: 2}, {P: 2, Q: 1}, {P: -1, Q: 2}, {P: -1, Q: 1}, {P: -1, Q: 1 << 31}, {P: 1 << 31, Q: 1}, {P: 1 << 31, Q: 1<<31 - 1}, {P: -1 << 31, Q: 1},
		{P: 2, Q: 4}, {P: 0, Q: 2}, {P: 5, Q: 5}, {P: 1, Q: 0}, {P: -1, Q: 0}, {P: 0, Q: -1}, {P: 1, Q: -2}, {P: -1, Q: -2}, {P: -1, Q: -1},
		{P: 1, Q: 1<<31 + 1}, {P: 1, Q: most}, {P: 1, Q: math.MaxInt}, {P: math.MinInt, Q: math.MinInt}, {P: math.MaxInt, Q: math.MaxInt}, {P: math.MinInt, Q: 1}, {P: 1, Q: math.MinInt},
	}
	for _, s := range badSources() {
		for _, chance := range append(goodChances(), wrong...) {
			if is, e := draw.Coin(s.seed, s.path, chance); is || e != api.ErrArg {
				t.Errorf("Coin of %d bytes, %d numbers and %v is %t, with the error %d", len(s.seed), len(s.path), chance, is, e)
			}
		}
	}
	for _, s := range goodSources() {
		for _, chance := range wrong {
			if is, e := draw.Coin(s.seed, s.path, chance); is || e != api.ErrRange {
				t.Errorf("Coin(%q, %v, %v) is %t, with the error %d", s.seed, s.path, chance, is, e)
			}
		}
	}
}

// P5.9: for prime Q, so that all fractions between are in lowest terms
func TestMore(t *testing.T) {
	for _, s := range goodSources() {
		for _, q := range []int{2, 3, 7, 101} {
			was := false
			for p := 1; p < q; p++ {
				is, e := draw.Coin(s.seed, s.path, api.Ratio{P: p, Q: q})
				if was && !is || e != api.OK {
					t.Errorf("Coin(%q, %v) is %t for %d / %d, with the error %d", s.seed, s.path, is, p, q, e)
				}
				was = is
			}
			if number, _ := draw.Num(s.seed, s.path, q); was != (number < q-1) {
				t.Errorf("Coin(%q, %v) is %t for %d / %d", s.seed, s.path, was, q-1, q)
			}
		}
	}
}

// T1: equal calls have equal results, whatever was drawn before
func TestDrawnAlone(t *testing.T) {
	l := goodSources()
	first := make([]int, len(l))
	for i, s := range l {
		first[i], _ = draw.Num(s.seed, s.path, oftenRefused)
	}
	for i := len(l) - 1; i >= 0; i-- {
		if again, e := draw.Num(l[i].seed, l[i].path, oftenRefused); again != first[i] || e != api.OK {
			t.Errorf("Num(%q, %v) is %d, and then %d, with the error %d", l[i].seed, l[i].path, first[i], again, e)
		}
	}
}
