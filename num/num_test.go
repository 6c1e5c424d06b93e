package num

import (
	"math"
	"math/big"
	"testing"

	"lychway/api"
)

const most = api.MaxNumber

type operation func(a, b int) (int, api.Errno)

type example struct {
	a, b, want int
	err        api.Errno
}

func testExamples(t *testing.T, name string, f operation, l []example) {
	t.Helper()
	for _, c := range l {
		if got, err := f(c.a, c.b); got != c.want || err != c.err {
			t.Errorf("%s(%d, %d) = %d, %d, want %d, %d", name, c.a, c.b, got, err, c.want, c.err)
		}
	}
}

// operands are small numbers, and those around the places where a result
// leaves the range or the 64 bits.
func operands() []int {
	l := []int{math.MinInt, math.MinInt + 1, math.MinInt32, math.MaxInt - 1, math.MaxInt}
	for n := -20; n <= 20; n++ {
		l = append(l, n)
	}
	for _, n := range []int{1 << 20, 1 << 24, 1 << 32, 1 << 39, most / 3, most, 1 << 41, 1 << 62} {
		for d := -2; d <= 2; d++ {
			l = append(l, n+d, -n+d)
		}
	}
	return l
}

func outside(n int) bool { return n < -(1<<40) || n > 1<<40 }

// limited computes exactly, and gives 0 and ErrOver for an operand or a result
// out of range.
func limited(a, b int, f func(x, y *big.Int) *big.Int) (int, api.Errno) {
	if outside(a) || outside(b) {
		return 0, api.ErrOver
	}
	r := f(big.NewInt(int64(a)), big.NewInt(int64(b)))
	if !r.IsInt64() || outside(int(r.Int64())) {
		return 0, api.ErrOver
	}
	return int(r.Int64()), api.OK
}

func testAll(t *testing.T, name string, f operation, exact operation) {
	t.Helper()
	for _, a := range operands() {
		for _, b := range operands() {
			got, err := f(a, b)
			want, wantErr := exact(a, b)
			if got != want || err != wantErr {
				t.Fatalf("%s(%d, %d) = %d, %d, want %d, %d", name, a, b, got, err, want, wantErr)
			}
		}
	}
}

// TestCheck: P1.1.
func TestCheck(t *testing.T) {
	for _, c := range []struct {
		n    int
		want api.Errno
	}{
		{0, api.OK},
		{1, api.OK},
		{-1, api.OK},
		{1099511627775, api.OK},
		{1099511627776, api.OK},
		{1099511627777, api.ErrOver},
		{-1099511627775, api.OK},
		{-1099511627776, api.OK},
		{-1099511627777, api.ErrOver},
		{1 << 41, api.ErrOver},
		{math.MaxInt, api.ErrOver},
		{math.MinInt, api.ErrOver},
	} {
		if got := Check(c.n); got != c.want {
			t.Errorf("Check(%d) = %d, want %d", c.n, got, c.want)
		}
	}
}

// TestAdd: P1.2.
func TestAdd(t *testing.T) {
	testExamples(t, "Add", Add, []example{
		{2, 3, 5, api.OK},
		{2, -3, -1, api.OK},
		{0, 0, 0, api.OK},
		{most, 0, most, api.OK},
		{most, -most, 0, api.OK},
		{most - 1, 1, most, api.OK},
		{most, 1, 0, api.ErrOver},
		{1 - most, -1, -most, api.OK},
		{-most, -1, 0, api.ErrOver},
		{most + 1, -1, 0, api.ErrOver},
		{-1, most + 1, 0, api.ErrOver},
		{-most - 1, 1, 0, api.ErrOver},
		{1, -most - 1, 0, api.ErrOver},
		{math.MaxInt, math.MinInt, 0, api.ErrOver},
		{math.MinInt, math.MinInt, 0, api.ErrOver},
	})
	testAll(t, "Add", Add, func(a, b int) (int, api.Errno) {
		return limited(a, b, func(x, y *big.Int) *big.Int { return x.Add(x, y) })
	})
}

// TestSub: P1.2.
func TestSub(t *testing.T) {
	testExamples(t, "Sub", Sub, []example{
		{2, 3, -1, api.OK},
		{2, -3, 5, api.OK},
		{0, most, -most, api.OK},
		{0, -most, most, api.OK},
		{most, most, 0, api.OK},
		{most - 1, -1, most, api.OK},
		{most, -1, 0, api.ErrOver},
		{1 - most, 1, -most, api.OK},
		{-most, 1, 0, api.ErrOver},
		{most + 1, 1, 0, api.ErrOver},
		{most, most + 1, 0, api.ErrOver},
		{-most - 1, -1, 0, api.ErrOver},
		{math.MinInt, math.MinInt, 0, api.ErrOver},
		{math.MinInt, math.MaxInt, 0, api.ErrOver},
	})
	testAll(t, "Sub", Sub, func(a, b int) (int, api.Errno) {
		return limited(a, b, func(x, y *big.Int) *big.Int { return x.Sub(x, y) })
	})
}

// TestMul: P1.2.
func TestMul(t *testing.T) {
	testExamples(t, "Mul", Mul, []example{
		{2, 3, 6, api.OK},
		{2, -3, -6, api.OK},
		{-2, -3, 6, api.OK},
		{0, -most, 0, api.OK},
		{-most, 0, 0, api.OK},
		{1 << 20, 1 << 20, most, api.OK},
		{-1 << 20, 1 << 20, -most, api.OK},
		{-most, -1, most, api.OK},
		{1<<20 + 1, 1 << 20, 0, api.ErrOver},
		{-1 << 20, 1<<20 + 1, 0, api.ErrOver},
		{1 << 32, 1 << 32, 0, api.ErrOver}, // 0 in 64 bits
		{most, most, 0, api.ErrOver},       // 0 in 64 bits
		{-most, most, 0, api.ErrOver},
		{1<<32 + 1, 1<<32 - 1, 0, api.ErrOver}, // -1 in 64 bits
		{most + 1, 0, 0, api.ErrOver},
		{0, most + 1, 0, api.ErrOver},
		{-most - 1, 1, 0, api.ErrOver},
		{math.MinInt, -1, 0, api.ErrOver},
		{0, math.MinInt, 0, api.ErrOver},
	})
	testAll(t, "Mul", Mul, func(a, b int) (int, api.Errno) {
		return limited(a, b, func(x, y *big.Int) *big.Int { return x.Mul(x, y) })
	})
}

// divisionErrors hold for Div and for Mod.
var divisionErrors = []example{
	{1, 0, 0, api.ErrZero},
	{0, 0, 0, api.ErrZero},
	{most, 0, 0, api.ErrZero},
	{-most, 0, 0, api.ErrZero},
	{most + 1, 0, 0, api.ErrOver},
	{-most - 1, 0, 0, api.ErrOver},
	{math.MinInt, 0, 0, api.ErrOver},
	{most + 1, 2, 0, api.ErrOver},
	{-most - 1, 2, 0, api.ErrOver},
	{2, most + 1, 0, api.ErrOver},
	{2, -most - 1, 0, api.ErrOver},
	{0, math.MinInt, 0, api.ErrOver},
	{math.MinInt, -1, 0, api.ErrOver},
}

// floored rounds the exact quotient of a and b toward negative infinity.
func floored(x, y *big.Int) *big.Int {
	q, m := new(big.Int).DivMod(x, y, new(big.Int))
	if y.Sign() < 0 && m.Sign() != 0 { // DivMod rounds up for these
		q.Sub(q, big.NewInt(1))
	}
	return q
}

func dividing(f func(x, y *big.Int) *big.Int) operation {
	return func(a, b int) (int, api.Errno) {
		if outside(a) {
			return 0, api.ErrOver
		}
		if b == 0 {
			return 0, api.ErrZero
		}
		return limited(a, b, f)
	}
}

// TestDiv: P1.3.
func TestDiv(t *testing.T) {
	testExamples(t, "Div", Div, divisionErrors)
	testExamples(t, "Div", Div, []example{
		{7, 2, 3, api.OK},
		{-7, 2, -4, api.OK},
		{7, -2, -4, api.OK},
		{-7, -2, 3, api.OK},
		{6, 2, 3, api.OK},
		{-6, 2, -3, api.OK},
		{6, -2, -3, api.OK},
		{0, -5, 0, api.OK},
		{1, most, 0, api.OK},
		{-1, most, -1, api.OK},
		{1, -most, -1, api.OK},
		{most, 1, most, api.OK},
		{most, -1, -most, api.OK},
		{-most, -1, most, api.OK},
		{-most, most, -1, api.OK},
	})
	testAll(t, "Div", Div, dividing(floored))
}

// TestMod: P1.3.
func TestMod(t *testing.T) {
	testExamples(t, "Mod", Mod, divisionErrors)
	testExamples(t, "Mod", Mod, []example{
		{7, 2, 1, api.OK},
		{-7, 2, 1, api.OK},
		{7, -2, -1, api.OK},
		{-7, -2, -1, api.OK},
		{6, 2, 0, api.OK},
		{-6, 4, 2, api.OK},
		{6, -4, -2, api.OK},
		{0, -5, 0, api.OK},
		{1, most, 1, api.OK},
		{-1, most, most - 1, api.OK},
		{1, -most, 1 - most, api.OK},
		{most, -1, 0, api.OK},
		{-most, -1, 0, api.OK},
		{most, most, 0, api.OK},
	})
	testAll(t, "Mod", Mod, dividing(func(x, y *big.Int) *big.Int {
		q := floored(x, y)
		return new(big.Int).Sub(x, q.Mul(q, y))
	}))
}
