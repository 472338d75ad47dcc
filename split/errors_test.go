package split_test

import (
	"math"
	"strings"
	"testing"

	"diorama/api"
	"diorama/split"
)

// change makes another split of a valid one.
type change func(s *split.Split)

// anyNumber are numbers that a part or a unit may be asked for, among them those of valid splits.
func anyNumber() []int {
	return []int{0, 1, 2, 3, 4, 5, -1, 11, 24, 65535, 65536, 65537, 1 << 20, 1 << 36, -1 << 36, math.MaxInt, math.MinInt}
}

// tooMuch are changes that exceed a limit.
func tooMuch() []change {
	return []change{
		func(s *split.Split) { s.N = 65537 },
		func(s *split.Split) { s.N = 1 << 32 },
		func(s *split.Split) { s.N = math.MaxInt },
		func(s *split.Split) { s.Lo = 1<<20 + 1 },
		func(s *split.Split) { s.Lo = -1<<20 - 1 },
		func(s *split.Split) { s.Lo = math.MinInt },
		func(s *split.Split) { s.Lo = math.MaxInt },
		func(s *split.Split) { s.Hi = 1<<20 + 1 },
		func(s *split.Split) { s.Hi = -1<<20 - 1 },
		func(s *split.Split) { s.Hi = math.MinInt },
		func(s *split.Split) { s.Hi = math.MaxInt },
	}
}

// notArguments are changes to what no split has.
func notArguments() []change {
	return []change{
		func(s *split.Split) { s.Seed = strings.Repeat("s", 33) },
		func(s *split.Split) { s.Seed = strings.Repeat("s", 1000) },
		func(s *split.Split) { s.Path = make([]int, 7) },
		func(s *split.Split) { s.Path = make([]int, 8) },
		func(s *split.Split) { s.Path = make([]int, 1000) },
		func(s *split.Split) { s.N = -1 },
		func(s *split.Split) { s.N = -65537 },
		func(s *split.Split) { s.N = math.MinInt },
		func(s *split.Split) { s.Lo, s.Hi = 7, 6 },
		func(s *split.Split) { s.Lo, s.Hi = 0, -1 },
		func(s *split.Split) { s.Lo, s.Hi = 1<<20, -1<<20 },
	}
}

// outOfRange are changes to a total that its parts cannot have.
func outOfRange() []change {
	return []change{
		func(s *split.Split) { s.Total = s.N*s.Lo - 1 },
		func(s *split.Split) { s.Total = s.N*s.Hi + 1 },
		func(s *split.Split) { s.Total = 1<<36 + 1 },
		func(s *split.Split) { s.Total = -1<<36 - 1 },
		func(s *split.Split) { s.Total = math.MaxInt },
		func(s *split.Split) { s.Total = math.MinInt },
		func(s *split.Split) { s.N, s.Total = 0, 1 },
		func(s *split.Split) { s.N, s.Total = 0, -1 },
		func(s *split.Split) { s.N, s.Total, s.Lo, s.Hi = 0, 7, 0, 9 },
		func(s *split.Split) { s.N, s.Total, s.Lo, s.Hi = 65536, 1<<36+1, -1<<20, 1<<20 },
		func(s *split.Split) { s.N, s.Total, s.Lo, s.Hi = 65536, -1<<36-1, -1<<20, 1<<20 },
	}
}

// base is a valid split with a change.
func base(changes ...change) split.Split {
	s := split.Split{Seed: "s", Path: []int{1}, Total: 11, N: 4, Lo: 1, Hi: 6}
	for _, c := range changes {
		c(&s)
	}
	return s
}

// refused checks that all functions refuse a split for one reason.
func refused(t *testing.T, s split.Split, want api.Errno) {
	t.Helper()
	if e := split.Valid(s); e != want {
		t.Errorf("Valid(%#v) is the error %d, want %d", s, e, want)
	}
	if l, e := split.All(s); len(l) != 0 || e != want {
		t.Errorf("All(%#v) has %d parts, and the error %d, want %d", s, len(l), e, want)
	}
	for _, k := range anyNumber() {
		if part, e := split.Part(s, k); part != 0 || e != want {
			t.Errorf("Part(%#v, %d) is %d, with the error %d, want %d", s, k, part, e, want)
		}
		if sum, e := split.Before(s, k); sum != 0 || e != want {
			t.Errorf("Before(%#v, %d) is %d, with the error %d, want %d", s, k, sum, e, want)
		}
		if part, place, e := split.Find(s, k); part != 0 || place != 0 || e != want {
			t.Errorf("Find(%#v, %d) is %d, %d, with the error %d, want %d", s, k, part, place, e, want)
		}
	}
}

// P7.1: the last splits that are valid
func TestValid(t *testing.T) {
	good := append(goodSplits(), largeSplits()...)
	for _, c := range []change{
		func(s *split.Split) {},
		func(s *split.Split) { s.Total = 4 },
		func(s *split.Split) { s.Total = 24 },
		func(s *split.Split) { s.N, s.Total = 0, 0 },
		func(s *split.Split) { s.N, s.Total = 65536, 65536 },
		func(s *split.Split) { s.N, s.Total = 65536, 65536*6 },
		func(s *split.Split) { s.Hi = 1 << 20 },
		func(s *split.Split) { s.Lo = -1 << 20 },
		func(s *split.Split) { s.N, s.Total, s.Lo, s.Hi = 65536, 1<<36, -1<<20, 1<<20 },
		func(s *split.Split) { s.N, s.Total, s.Lo, s.Hi = 65536, -1<<36, -1<<20, 1<<20 },
		func(s *split.Split) { s.Seed = "" },
		func(s *split.Split) { s.Seed = strings.Repeat("\xff", 32) },
		func(s *split.Split) { s.Path = nil },
		func(s *split.Split) { s.Path = []int{} },
		func(s *split.Split) { s.Path = make([]int, 6) },
	} {
		good = append(good, base(c))
	}
	for _, s := range good {
		if e := split.Valid(s); e != api.OK {
			t.Errorf("Valid(%#v) is the error %d", s, e)
		}
	}
}

// P7.1, P7.2, P7.3, P7.4, P7.5: each error, and that it goes before those that are named after it
func TestRefused(t *testing.T) {
	nothing := func(s *split.Split) {}
	later := append(append([]change{nothing}, notArguments()...), outOfRange()...)
	for _, c := range tooMuch() {
		for _, other := range later {
			refused(t, base(other, c), api.ErrLimit)
		}
	}
	for _, c := range notArguments() {
		for _, other := range append([]change{nothing}, outOfRange()...) {
			refused(t, base(other, c), api.ErrArg)
		}
	}
	for _, c := range outOfRange() {
		refused(t, base(c), api.ErrRange)
	}
}

// P7.2, P7.3: parts that there are not
func TestNoSuchPart(t *testing.T) {
	for _, s := range append(goodSplits(), largeSplits()...) {
		for _, k := range []int{s.N, s.N + 1, -1, -s.N - 1, 65537, 1 << 32, math.MaxInt, math.MinInt} {
			if part, e := split.Part(s, k); part != 0 || e != api.ErrNone {
				t.Errorf("Part(%#v, %d) is %d, with the error %d", s, k, part, e)
			}
			if sum, e := split.Before(s, k); k != s.N && (sum != 0 || e != api.ErrNone) {
				t.Errorf("Before(%#v, %d) is %d, with the error %d", s, k, sum, e)
			}
		}
	}
}

// P7.4: units that there are not, and splits without units
func TestNoSuchUnit(t *testing.T) {
	for _, s := range append(goodSplits(), largeSplits()...) {
		want := api.ErrNone
		if s.Lo < 0 {
			want = api.ErrArg
		}
		wrong := []int{s.Total, s.Total + 1, -1, -s.Total - 1, 1<<36 + 1, math.MaxInt, math.MinInt}
		if s.Lo < 0 {
			wrong = append(wrong, 0, 1, s.Total-1)
		}
		for _, x := range wrong {
			if x >= 0 && x < s.Total && s.Lo >= 0 {
				continue
			}
			if k, y, e := split.Find(s, x); k != 0 || y != 0 || e != want {
				t.Errorf("Find(%#v, %d) is %d, %d, with the error %d, want %d", s, x, k, y, e, want)
			}
		}
	}
}
