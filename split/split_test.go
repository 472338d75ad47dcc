package split_test

import (
	"math"
	"slices"
	"strings"
	"testing"

	"diorama/api"
	"diorama/draw"
	"diorama/split"
)

// longSeed and longPath are the longest ones of a split that is valid.
var (
	longSeed = strings.Repeat("s", 32)
	longPath = []int{math.MinInt, math.MaxInt, -1, 0, 1, 2}
)

// totals are the totals of n parts from lo to hi that are looked at: all of them if they are few, and otherwise the ends and some between.
func totals(n, lo, hi int) []int {
	least, most := n*lo, n*hi
	if most-least <= 12 {
		l := []int{}
		for total := least; total <= most; total++ {
			l = append(l, total)
		}
		return l
	}
	middle := least + (most-least)/2
	return []int{least, least + 1, least + 2, middle - 1, middle, most - 2, most - 1, most}
}

// goodSplits are valid.
func goodSplits() []split.Split {
	l := []split.Split{}
	for _, bounds := range [][2]int{{0, 0}, {0, 1}, {0, 9}, {2, 4}, {4, 9}, {1, 8}, {7, 7}, {-3, 2}, {-9, -1}, {-5, 0}, {-7, -7}, {0, 1 << 20}, {-1 << 20, 1 << 20}, {1 << 20, 1 << 20}, {-1 << 20, -1 << 20}} {
		for _, n := range []int{0, 1, 2, 3, 4, 5, 6, 7, 8, 9, 15, 16, 17, 33} {
			for _, total := range totals(n, bounds[0], bounds[1]) {
				l = append(l,
					split.Split{Total: total, N: n, Lo: bounds[0], Hi: bounds[1]},
					split.Split{Seed: "seed", Path: []int{1, 2}, Total: total, N: n, Lo: bounds[0], Hi: bounds[1]},
					split.Split{Seed: longSeed, Path: longPath, Total: total, N: n, Lo: bounds[0], Hi: bounds[1]})
			}
		}
	}
	return l
}

// largeSplits are valid, and have as many parts as there may be, or nearly.
func largeSplits() []split.Split {
	return []split.Split{
		{Seed: "large", Path: []int{6}, Total: 32768 * 5, N: 65536, Lo: 0, Hi: 7},
		{Seed: longSeed, Path: longPath, Total: -12345, N: 65535, Lo: -1 << 20, Hi: 1 << 20},
		{Seed: "large", Total: 1<<36 - 9, N: 65536, Lo: 0, Hi: 1 << 20},
		{Seed: "large", Total: 5 - 1<<36, N: 65536, Lo: -1 << 20, Hi: 1 << 20},
	}
}

// refParts are the parts by their definition.
func refParts(t *testing.T, s split.Split) []int {
	t.Helper()
	l := make([]int, s.N)
	var fill func(a, n, total int)
	fill = func(a, n, total int) {
		if n == 1 {
			l[a] = total
			return
		}
		left := n / 2
		right := n - left
		lo, hi := left*s.Lo, left*s.Hi
		if least := total - right*s.Hi; least > lo {
			lo = least
		}
		if most := total - right*s.Lo; most < hi {
			hi = most
		}
		drawn, e := draw.Between(s.Seed, append(slices.Clone(s.Path), a, n), lo, hi)
		if e != api.OK {
			t.Fatalf("the draw of %#v for %d and %d has the error %d", s, a, n, e)
		}
		fill(a, left, drawn)
		fill(a+left, right, total-drawn)
	}
	if s.N > 0 {
		fill(0, s.N, s.Total)
	}
	return l
}

// mustAll returns the parts of a split that is valid.
func mustAll(t *testing.T, s split.Split) []int {
	t.Helper()
	l, e := split.All(s)
	if e != api.OK || len(l) != s.N {
		t.Fatalf("All(%#v) has %d parts, and the error %d", s, len(l), e)
	}
	return l
}

// mustBefore returns the sum of the first k parts.
func mustBefore(t *testing.T, s split.Split, k int) int {
	t.Helper()
	sum, e := split.Before(s, k)
	if e != api.OK {
		t.Fatalf("Before(%#v, %d) has the error %d", s, k, e)
	}
	return sum
}

// P7.2, P7.3, P7.5: parts that another program computed from the definition
func TestKnownParts(t *testing.T) {
	for _, c := range []struct {
		s    split.Split
		want []int
	}{
		{split.Split{Total: 12, N: 3, Lo: 4, Hi: 9}, []int{4, 4, 4}},
		{split.Split{Total: 5, N: 1, Lo: 0, Hi: 9}, []int{5}},
		{split.Split{Total: 11, N: 2, Lo: 0, Hi: 6}, []int{6, 5}},
		{split.Split{Total: 10, N: 3, Lo: 2, Hi: 4}, []int{4, 4, 2}},
		{split.Split{Total: 0, N: 0, Lo: 0, Hi: 9}, nil},
		{split.Split{Seed: "seed", Path: []int{1, 2}, Total: 100, N: 13, Lo: 0, Hi: 100}, []int{30, 6, 1, 12, 9, 1, 9, 8, 8, 1, 6, 7, 2}},
		{split.Split{Seed: "seed", Path: []int{1, 2}, Total: 0, N: 9, Lo: -5, Hi: 5}, []int{2, -1, 3, -4, 1, -3, -2, 3, 1}},
		{split.Split{Seed: "seed", Path: []int{1, 2}, Total: -41, N: 9, Lo: -9, Hi: -1}, []int{-9, -9, -9, -9, -1, -1, -1, -1, -1}},
		{split.Split{Seed: longSeed, Path: longPath, Total: 7 << 19, N: 8, Lo: -1 << 20, Hi: 1 << 20}, []int{1044634, 1033711, 976844, 1044819, 639445, -232683, -126211, -710543}},
		{split.Split{Seed: "tree", Path: []int{7}, Total: 23, N: 5, Lo: 1, Hi: 8}, []int{4, 2, 6, 3, 8}},
		{split.Split{Seed: "\x00\xff", Path: []int{0}, Total: 33, N: 17, Lo: 0, Hi: 5}, []int{0, 0, 0, 1, 4, 0, 0, 4, 5, 4, 5, 5, 2, 0, 3, 0, 0}},
	} {
		if all := mustAll(t, c.s); !slices.Equal(all, c.want) {
			t.Errorf("All(%#v) = %v, want %v", c.s, all, c.want)
		}
		sum := 0
		for k, want := range c.want {
			part, e := split.Part(c.s, k)
			before, f := split.Before(c.s, k)
			if part != want || before != sum || e != api.OK || f != api.OK {
				t.Errorf("the part %d of %#v is %d behind %d, with the errors %d and %d, want %d behind %d", k, c.s, part, before, e, f, want, sum)
			}
			sum += want
		}
	}
}

// P7.2, P7.3: parts of large splits that another program computed from the definition
func TestKnownPartsOfLargeSplits(t *testing.T) {
	large := largeSplits()
	for _, c := range []struct{ index, k, before, part int }{
		{0, 0, 0, 7}, {0, 1, 7, 7}, {0, 32767, 127921, 0}, {0, 32768, 127921, 0}, {0, 40000, 143339, 1}, {0, 65534, 163830, 7}, {0, 65535, 163837, 3},
		{1, 0, 0, -1030084}, {1, 1, -1030084, -1044196}, {1, 32766, 3909890430, 1034555}, {1, 32767, 3910924985, -1047290}, {1, 40000, 210929070, 998993}, {1, 65533, -2107550, 1046951}, {1, 65534, -1060599, 1048254},
	} {
		s := large[c.index]
		part, e := split.Part(s, c.k)
		before, f := split.Before(s, c.k)
		if part != c.part || before != c.before || e != api.OK || f != api.OK {
			t.Errorf("the part %d of %#v is %d behind %d, with the errors %d and %d, want %d behind %d", c.k, s, part, before, e, f, c.part, c.before)
		}
	}
}

// P7.2, P7.3, P7.5, P7.6: the parts by their definition, and their sums
func TestParts(t *testing.T) {
	for _, s := range goodSplits() {
		want := refParts(t, s)
		if all := mustAll(t, s); !slices.Equal(all, want) {
			t.Errorf("All(%#v) = %v, want %v", s, all, want)
		}
		sum := 0
		for k := range s.N {
			part, e := split.Part(s, k)
			if part != want[k] || part < s.Lo || part > s.Hi || e != api.OK {
				t.Errorf("Part(%#v, %d) = %d and the error %d, want %d", s, k, part, e, want[k])
			}
			if before := mustBefore(t, s, k); before != sum {
				t.Errorf("Before(%#v, %d) = %d, want %d", s, k, before, sum)
			}
			sum += part
		}
		if last := mustBefore(t, s, s.N); last != s.Total || sum != s.Total {
			t.Errorf("the parts of %#v have the sum %d, and Before the last one %d", s, sum, last)
		}
	}
}

// P7.2, P7.3, P7.4, P7.5, P7.6: also for as many parts as there may be
func TestLargeSplits(t *testing.T) {
	for _, s := range largeSplits() {
		all := mustAll(t, s)
		if !slices.Equal(all, refParts(t, s)) {
			t.Errorf("All(%#v) is not what is defined", s)
		}
		sum := 0
		for k, want := range all {
			if want < s.Lo || want > s.Hi {
				t.Errorf("the part %d of %#v is %d", k, s, want)
			}
			if k%97 == 0 || k == s.N-1 {
				part, e := split.Part(s, k)
				before := mustBefore(t, s, k)
				if part != want || before != sum || e != api.OK {
					t.Errorf("the part %d of %#v is %d behind %d, with the error %d, want %d behind %d", k, s, part, before, e, want, sum)
				}
				if s.Lo >= 0 && want > 0 {
					found(t, s, k, want-1, sum+want-1)
				}
			}
			sum += want
		}
		if sum != s.Total {
			t.Errorf("the parts of %#v have the sum %d", s, sum)
		}
	}
}

// found checks that the unit x is in the part k, at the place y there.
func found(t *testing.T, s split.Split, k, y, x int) {
	t.Helper()
	if part, place, e := split.Find(s, x); part != k || place != y || e != api.OK {
		t.Errorf("Find(%#v, %d) = %d, %d and the error %d, want %d, %d", s, x, part, place, e, k, y)
	}
}

// P7.4, P7.7: each unit of small parts, the first and the last ones of large parts
func TestFind(t *testing.T) {
	for _, s := range goodSplits() {
		if s.Lo < 0 {
			continue
		}
		sum := 0
		for k, part := range mustAll(t, s) {
			for y := range min(part, 9) {
				found(t, s, k, y, sum+y)
				found(t, s, k, part-1-y, sum+part-1-y)
			}
			sum += part
		}
	}
}

// P7.4: a unit is never in a part without units, wherever that one is
func TestFindPassesEmptyParts(t *testing.T) {
	for _, total := range []int{1, 2, 5} {
		for i := range 50 {
			s := split.Split{Seed: "empty", Path: []int{i}, Total: total, N: 11, Lo: 0, Hi: 2}
			owners := []int{}
			for k, part := range mustAll(t, s) {
				owners = append(owners, slices.Repeat([]int{k}, part)...)
			}
			for x, owner := range owners {
				if k, _, e := split.Find(s, x); k != owner || e != api.OK {
					t.Errorf("Find(%#v, %d) is the part %d, with the error %d, want %d", s, x, k, e, owner)
				}
			}
		}
	}
}

// P7.6: few parts are every list that they can be
func TestEveryListIsDrawn(t *testing.T) {
	seen := map[[3]int]int{}
	for i := range 600 {
		all := mustAll(t, split.Split{Seed: "lists", Path: []int{i}, Total: 10, N: 3, Lo: 2, Hi: 4})
		seen[[3]int(all)]++
	}
	for _, want := range [][3]int{{2, 4, 4}, {3, 3, 4}, {3, 4, 3}, {4, 2, 4}, {4, 3, 3}, {4, 4, 2}} {
		if seen[want] < 30 {
			t.Errorf("of 600 splits %d have the parts %v", seen[want], want)
		}
	}
	if len(seen) != 6 {
		t.Errorf("the parts are %v", seen)
	}
}

// P7.8
func TestHalves(t *testing.T) {
	for _, s := range append(goodSplits(), largeSplits()[:2]...) {
		half := s
		half.N = s.N / 2
		half.Total = mustBefore(t, s, half.N)
		if first, all := mustAll(t, half), mustAll(t, s); !slices.Equal(first, all[:half.N]) {
			t.Errorf("the first parts of %#v are not those of %#v", s, half)
		}
		if half.N == 0 {
			continue
		}
		rest := s.N - half.N
		path := append(slices.Clone(s.Path), 0, s.N)
		drawn, e := draw.Between(s.Seed, path, max(half.N*s.Lo, s.Total-rest*s.Hi), min(half.N*s.Hi, s.Total-rest*s.Lo))
		if drawn != half.Total || e != api.OK {
			t.Errorf("the first half of %#v has the sum %d, and the draw is %d, with the error %d", s, half.Total, drawn, e)
		}
	}
}

// P7.9
func TestMoved(t *testing.T) {
	for _, s := range goodSplits() {
		all := mustAll(t, s)
		for _, by := range []int{1, -1, 10, -1000, -s.Lo, -s.Hi, 1<<20 - s.Hi, -1<<20 - s.Lo} {
			moved := s
			moved.Lo, moved.Hi, moved.Total = s.Lo+by, s.Hi+by, s.Total+s.N*by
			if moved.Lo < -1<<20 || moved.Hi > 1<<20 {
				continue
			}
			for k, part := range mustAll(t, moved) {
				if part != all[k]+by {
					t.Errorf("the part %d of %#v is %d, and moved by %d it is %d", k, s, all[k], by, part)
				}
			}
		}
	}
}

// P7.10
func TestEnds(t *testing.T) {
	for _, n := range []int{0, 1, 2, 3, 7, 16, 1000} {
		for _, bounds := range [][2]int{{0, 0}, {0, 5}, {2, 4}, {-3, 2}, {-9, -1}, {-1 << 20, 1 << 20}} {
			for _, end := range bounds {
				all := mustAll(t, split.Split{Seed: "ends", Path: []int{3}, Total: n * end, N: n, Lo: bounds[0], Hi: bounds[1]})
				if !slices.Equal(all, slices.Repeat([]int{end}, n)) {
					t.Errorf("the %d parts from %d to %d with the total %d are %v", n, bounds[0], bounds[1], n*end, all)
				}
			}
		}
	}
	for total := -4; total <= 6; total++ {
		if all := mustAll(t, split.Split{Seed: "one", Total: total, N: 1, Lo: -4, Hi: 6}); all[0] != total {
			t.Errorf("the only part of %d is %d", total, all[0])
		}
	}
}

// T1: whatever was asked for before, in any order
func TestAlone(t *testing.T) {
	s := split.Split{Seed: "alone", Path: []int{9, 8, 7}, Total: 900, N: 300, Lo: 0, Hi: 9}
	other := split.Split{Seed: "other", Path: s.Path, Total: 800, N: 300, Lo: 0, Hi: 9}
	all := mustAll(t, s)
	for k := s.N - 1; k >= 0; k -= 3 {
		split.Part(other, k)
		split.Find(other, k)
		mustAll(t, other)
		part, e := split.Part(s, k)
		next := mustBefore(t, s, k+1)
		if before := mustBefore(t, s, k); part != all[k] || next-before != part || e != api.OK {
			t.Errorf("the part %d is %d, and then %d from %d to %d, with the error %d", k, all[k], part, before, next, e)
		}
	}
	if again := mustAll(t, s); !slices.Equal(again, all) {
		t.Errorf("the parts are %v, and then %v", all, again)
	}
}

// P7.5: other seeds and paths have other parts
func TestSourcesDiffer(t *testing.T) {
	seen := [][]int{}
	for _, s := range []split.Split{{}, {Path: []int{0}}, {Path: []int{0, 0}}, {Seed: "\x00"}, {Seed: "a"}, {Seed: "a", Path: []int{1, 2}}, {Seed: "a", Path: []int{2, 1}}, {Seed: "a", Path: []int{12}}} {
		s.Total, s.N, s.Hi = 300, 60, 9
		all := mustAll(t, s)
		for _, other := range seen {
			if slices.Equal(all, other) {
				t.Errorf("%q and %v have the parts %v of others", s.Seed, s.Path, all)
			}
		}
		seen = append(seen, all)
	}
}

// The memory behind a path is not written, and results are new.
func TestMemory(t *testing.T) {
	path := []int{4, 5, 6, 7, 8}
	s := split.Split{Seed: "seed", Path: path[:2], Total: 50, N: 10, Lo: 0, Hi: 9}
	split.Valid(s)
	split.Part(s, 3)
	split.Before(s, 3)
	split.Find(s, 3)
	all := mustAll(t, s)
	if !slices.Equal(path, []int{4, 5, 6, 7, 8}) {
		t.Errorf("the path became %v", path)
	}
	want := slices.Clone(all)
	clear(all)
	if again := mustAll(t, s); !slices.Equal(again, want) {
		t.Errorf("the parts are %v, and after these were changed %v", want, again)
	}
}
