package gap

import (
	"math"
	"testing"

	"lychway/api"
)

// The limits are written out, so that the tests do not follow the program.
const (
	mostTries = 6
	mostGap   = 1000
)

// numbers are those around all limits, and the greatest and smallest ones.
func numbers() []int {
	l := []int{math.MinInt, math.MinInt + 1, -1 << 32, math.MaxInt - 1, math.MaxInt, 1 << 32, 1<<32 + 3}
	for n := -8; n <= 8; n++ {
		l = append(l, n)
	}
	for _, n := range []int{499, 500, 501, 998, 999, 1000, 1001, 1002} {
		l = append(l, n, -n)
	}
	return l
}

// valid repeats the ranges of P16.1, one after the other.
func valid(p api.Policy) bool {
	switch {
	case p.Tries < 1, p.Tries > mostTries:
		return false
	case p.Base < 1, p.Base > mostGap:
		return false
	case p.Cap < p.Base, p.Cap > mostGap:
		return false
	}
	return true
}

// eachValid policy, with all numbers of attempts, and all bases and caps.
func eachValid(visit func(p api.Policy)) {
	for base := 1; base <= mostGap; base++ {
		for most := base; most <= mostGap; most++ {
			for tries := 1; tries <= mostTries; tries++ {
				visit(api.Policy{Tries: tries, Base: base, Cap: most})
			}
		}
	}
}

// waits are the waiting times of a policy by addition: each one is twice the
// one before it, until the cap is reached.
func waits(p api.Policy) []int {
	l := []int{p.Base}
	for len(l) < p.Tries {
		next := l[len(l)-1] + l[len(l)-1]
		if next > p.Cap {
			next = p.Cap
		}
		l = append(l, next)
	}
	return l
}

func sumOf(l []int) int {
	sum := 0
	for _, n := range l {
		sum += n
	}
	return sum
}

// TestCheck: P16.1.
func TestCheck(t *testing.T) {
	for _, c := range []struct {
		tries, base, most int
		want              api.Errno
	}{
		{3, 5, 15, api.OK},
		{4, 3, 10, api.OK},
		{1, 1, 1, api.OK},
		{6, 1, 1, api.OK},
		{6, 1, 1000, api.OK},
		{6, 1000, 1000, api.OK},
		{1, 500, 500, api.OK},
		{0, 0, 0, api.ErrRange},
		{0, 5, 15, api.ErrRange},
		{-1, 5, 15, api.ErrRange},
		{7, 5, 15, api.ErrRange},
		{3, 0, 15, api.ErrRange},
		{3, -5, 15, api.ErrRange},
		{3, 0, 0, api.ErrRange},
		{3, -5, -5, api.ErrRange},
		{3, 1001, 1001, api.ErrRange},
		{3, 1001, 1000, api.ErrRange},
		{3, 5, 4, api.ErrRange},
		{3, 5, 0, api.ErrRange},
		{3, 5, -15, api.ErrRange},
		{3, 1000, 999, api.ErrRange},
		{3, 5, 1001, api.ErrRange},
		{math.MaxInt, 5, 15, api.ErrRange},
		{3, math.MinInt, 15, api.ErrRange},
		{3, 5, math.MaxInt, api.ErrRange},
		{7, 0, -1, api.ErrRange},
	} {
		p := api.Policy{Tries: c.tries, Base: c.base, Cap: c.most}
		if got := Check(p); got != c.want {
			t.Errorf("Check(%v) = %d, want %d", p, got, c.want)
		}
	}
}

// TestAllPolicies around the limits: P16.1, and the errors of P16.2 and P16.3.
func TestAllPolicies(t *testing.T) {
	for _, tries := range numbers() {
		for _, base := range numbers() {
			for _, most := range numbers() {
				testPolicy(t, api.Policy{Tries: tries, Base: base, Cap: most})
			}
		}
	}
}

func testPolicy(t *testing.T, p api.Policy) {
	t.Helper()
	want := api.ErrRange
	if valid(p) {
		want = api.OK
	}
	if got := Check(p); got != want {
		t.Fatalf("Check(%v) = %d, want %d", p, got, want)
	}
	if want == api.OK {
		return
	}
	for _, try := range numbers() {
		if n, got := Of(p, try); n != 0 || got != want {
			t.Fatalf("Of(%v, %d) = %d, %d, want 0, %d", p, try, n, got, want)
		}
	}
	if n, got := Whole(p); n != 0 || got != want {
		t.Fatalf("Whole(%v) = %d, %d, want 0, %d", p, n, got, want)
	}
}

// TestValidPolicies: P16.1.
func TestValidPolicies(t *testing.T) {
	count := 0
	eachValid(func(p api.Policy) {
		count++
		if got := Check(p); got != api.OK {
			t.Fatalf("Check(%v) = %d, want 0", p, got)
		}
	})
	if count != 6*500500 {
		t.Errorf("%d valid policies, want %d", count, 6*500500)
	}
}

// TestOf: P16.2.
func TestOf(t *testing.T) {
	for _, c := range []struct {
		tries, base, most, try, want int
		err                          api.Errno
	}{
		{4, 3, 10, 1, 3, api.OK}, // the chapter's example
		{4, 3, 10, 2, 6, api.OK},
		{4, 3, 10, 3, 10, api.OK},
		{4, 3, 10, 4, 10, api.OK},
		{4, 3, 12, 3, 12, api.OK}, // exactly the cap
		{4, 3, 12, 4, 12, api.OK},
		{4, 3, 11, 3, 11, api.OK},
		{4, 3, 13, 3, 12, api.OK},
		{4, 3, 13, 4, 13, api.OK},
		{6, 1, 1000, 6, 32, api.OK},
		{6, 31, 1000, 6, 992, api.OK},
		{6, 32, 1000, 6, 1000, api.OK},
		{6, 5, 5, 1, 5, api.OK}, // nothing is doubled
		{6, 5, 5, 6, 5, api.OK},
		{6, 1000, 1000, 1, 1000, api.OK},
		{6, 1000, 1000, 6, 1000, api.OK},
		{1, 1, 1, 1, 1, api.OK},
		{1, 1, 1, 2, 0, api.ErrRange},
		{4, 3, 10, 0, 0, api.ErrRange},
		{4, 3, 10, -1, 0, api.ErrRange},
		{4, 3, 10, 5, 0, api.ErrRange}, // more than Tries, though not more than MaxTries
		{6, 3, 10, 7, 0, api.ErrRange},
		{4, 3, 10, math.MinInt, 0, api.ErrRange},
		{4, 3, 10, math.MaxInt, 0, api.ErrRange},
		{0, 3, 10, 1, 0, api.ErrRange},
		{7, 3, 10, 1, 0, api.ErrRange},
		{4, 0, 10, 1, 0, api.ErrRange},
		{4, 3, 2, 1, 0, api.ErrRange},
		{4, 3, 1001, 1, 0, api.ErrRange},
		{math.MaxInt, 3, 10, math.MaxInt, 0, api.ErrRange},
	} {
		p := api.Policy{Tries: c.tries, Base: c.base, Cap: c.most}
		if got, err := Of(p, c.try); got != c.want || err != c.err {
			t.Errorf("Of(%v, %d) = %d, %d, want %d, %d", p, c.try, got, err, c.want, c.err)
		}
	}
}

// TestAllWaits: P16.2, all attempts of all valid policies.
func TestAllWaits(t *testing.T) {
	eachValid(func(p api.Policy) {
		for i, want := range waits(p) {
			if got, err := Of(p, i+1); got != want || err != api.OK {
				t.Fatalf("Of(%v, %d) = %d, %d, want %d, 0", p, i+1, got, err, want)
			}
		}
	})
}

// TestNoSuchTry: P16.2, all attempts that valid policies do not have.
func TestNoSuchTry(t *testing.T) {
	for tries := 1; tries <= mostTries; tries++ {
		for _, p := range []api.Policy{{Tries: tries, Base: 1, Cap: 1}, {Tries: tries, Base: 3, Cap: 10}, {Tries: tries, Base: 1000, Cap: 1000}} {
			for _, try := range numbers() {
				if try >= 1 && try <= tries {
					continue
				}
				if n, err := Of(p, try); n != 0 || err != api.ErrRange {
					t.Errorf("Of(%v, %d) = %d, %d, want 0, %d", p, try, n, err, api.ErrRange)
				}
			}
		}
	}
}

// TestWhole: P16.3.
func TestWhole(t *testing.T) {
	for _, c := range []struct {
		tries, base, most, want int
		err                     api.Errno
	}{
		{4, 3, 10, 29, api.OK}, // 3, 6, 10 and 10
		{3, 5, 15, 30, api.OK},
		{1, 5, 15, 5, api.OK}, // the cap is not reached
		{6, 1, 1000, 63, api.OK},
		{6, 1, 1, 6, api.OK},
		{1, 1, 1, 1, api.OK},
		{6, 1000, 1000, 6000, api.OK},
		{6, 500, 1000, 5500, api.OK},
		{0, 0, 0, 0, api.ErrRange},
		{0, 3, 10, 0, api.ErrRange},
		{7, 3, 10, 0, api.ErrRange},
		{-4, 3, 10, 0, api.ErrRange},
		{4, 0, 10, 0, api.ErrRange},
		{4, -3, 10, 0, api.ErrRange},
		{4, 1001, 1001, 0, api.ErrRange},
		{4, 3, 2, 0, api.ErrRange},
		{4, 3, 1001, 0, api.ErrRange},
		{math.MaxInt, math.MaxInt, math.MaxInt, 0, api.ErrRange},
	} {
		p := api.Policy{Tries: c.tries, Base: c.base, Cap: c.most}
		if got, err := Whole(p); got != c.want || err != c.err {
			t.Errorf("Whole(%v) = %d, %d, want %d, %d", p, got, err, c.want, c.err)
		}
	}
}

// TestAllSums: P16.3, all valid policies.
func TestAllSums(t *testing.T) {
	eachValid(func(p api.Policy) {
		want := sumOf(waits(p))
		if got, err := Whole(p); got != want || err != api.OK {
			t.Fatalf("Whole(%v) = %d, %d, want %d, 0", p, got, err, want)
		}
	})
}
