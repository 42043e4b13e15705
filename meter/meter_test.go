package meter

import (
	"math"
	"math/big"
	"testing"

	"columbary/api"
)

// state is what can be told of a meter.
type state struct {
	spent int
	out   bool
}

func expect(t *testing.T, name string, m *Meter, want state) {
	t.Helper()
	if got := (state{m.Spent(), m.Out()}); got != want {
		t.Errorf("%s: %+v, want %+v", name, got, want)
	}
}

func expectSpend(t *testing.T, name string, m *Meter, n int, ok bool, want state) {
	t.Helper()
	if got := m.Spend(n); got != ok {
		t.Errorf("%s: Spend(%d) is %t", name, n, got)
	}
	expect(t, name, m, want)
}

func TestNewIsUnspent(t *testing.T) {
	for _, budget := range []int{math.MinInt, -1, 0, 1, 10, api.Far, math.MaxInt} {
		expect(t, "new", New(budget), state{0, false})
	}
}

func TestSpendAddsUp(t *testing.T) {
	m := New(10)
	expectSpend(t, "first", m, 3, true, state{3, false})
	expectSpend(t, "nothing", m, 0, true, state{3, false})
	expectSpend(t, "second", m, 4, true, state{7, false})
}

func TestSpendBelowZeroIsZero(t *testing.T) {
	for _, n := range []int{-1, -7, math.MinInt} {
		m := New(10)
		expectSpend(t, "spend", m, 4, true, state{4, false})
		expectSpend(t, "below 0", m, n, true, state{4, false})
		expectSpend(t, "the rest", m, 6, true, state{10, false})
		expectSpend(t, "below 0, all spent", m, n, true, state{10, false})
		expectSpend(t, "one more", m, 1, false, state{10, true})
		expectSpend(t, "below 0, out", m, n, false, state{10, true})
	}
}

func TestSpendOfJustWhatIsLeft(t *testing.T) {
	m := New(10)
	expectSpend(t, "some", m, 4, true, state{4, false})
	expectSpend(t, "the rest", m, 6, true, state{10, false})
	expectSpend(t, "nothing", m, 0, true, state{10, false})
	expectSpend(t, "one more", m, 1, false, state{10, true})

	m = New(10)
	expectSpend(t, "some", m, 4, true, state{4, false})
	expectSpend(t, "one more than the rest", m, 7, false, state{4, true})
}

func TestRefusedForGood(t *testing.T) {
	for _, n := range []int{0, -1, 1, 7, 8, math.MaxInt, math.MinInt} {
		m := New(10)
		expectSpend(t, "some", m, 3, true, state{3, false})
		expectSpend(t, "too much", m, 8, false, state{3, true})
		expectSpend(t, "behind it", m, n, false, state{3, true})
		expectSpend(t, "and again", m, 0, false, state{3, true})
	}
}

func TestBudgetBelowZeroIsZero(t *testing.T) {
	for _, budget := range []int{0, -1, -4, math.MinInt} {
		m := New(budget)
		expectSpend(t, "nothing", m, 0, true, state{0, false})
		expectSpend(t, "below 0", m, -9, true, state{0, false})
		expectSpend(t, "one", m, 1, false, state{0, true})
		expectSpend(t, "nothing, out", m, 0, false, state{0, true})
	}
}

func TestGreatestNumbers(t *testing.T) {
	m := New(math.MaxInt)
	expectSpend(t, "all but one", m, math.MaxInt-1, true, state{math.MaxInt - 1, false})
	expectSpend(t, "the last", m, 1, true, state{math.MaxInt, false})
	expectSpend(t, "one more", m, 1, false, state{math.MaxInt, true})

	m = New(math.MaxInt)
	expectSpend(t, "some", m, 5, true, state{5, false})
	expectSpend(t, "a sum that wraps round", m, math.MaxInt, false, state{5, true})
}

func TestNilMeterHasNoBound(t *testing.T) {
	var m *Meter
	expect(t, "nil", m, state{0, false})
	for _, n := range []int{0, 1, -1, math.MaxInt, math.MaxInt, math.MinInt} {
		expectSpend(t, "nil", m, n, true, state{0, false})
	}
}

func TestMetersAreApart(t *testing.T) {
	a, b := New(5), New(5)
	expectSpend(t, "a", a, 6, false, state{0, true})
	expectSpend(t, "b", b, 5, true, state{5, false})
	expect(t, "a", a, state{0, true})
}

// Every run of three Spends from a few numbers, against the promise's own words.
func TestSpendsByThrees(t *testing.T) {
	numbers := []int{-2, 0, 1, 2, 3, 5}
	for _, budget := range []int{-1, 0, 1, 3, 6} {
		for _, a := range numbers {
			for _, b := range numbers {
				for _, c := range numbers {
					runSpends(t, budget, a, b, c)
				}
			}
		}
	}
}

func runSpends(t *testing.T, budget int, spends ...int) {
	t.Helper()
	m, want := New(budget), state{}
	for _, n := range spends {
		sum := want.spent + max(n, 0)
		ok := !want.out && sum <= max(budget, 0)
		if ok {
			want.spent = sum
		} else {
			want.out = true
		}
		expectSpend(t, "threes", m, n, ok, want)
	}
}

// edges are numbers within the bound, at it, beyond it, and those that wrap round.
func edges() []int {
	return []int{
		math.MinInt, math.MinInt + 1, -api.Far - 1, -api.Far, -2, -1,
		0, 1, 2, 3, 7, 1<<20 - 1, 1 << 20, 1<<30 - 1, 1 << 30, 1<<30 + 1,
		1 << 32, 1 << 40, 1<<40 + 1, api.Far/3 - 1, api.Far / 3, api.Far/3 + 1,
		api.Far/2 - 1, api.Far / 2, api.Far/2 + 1, api.Far - 1, api.Far, api.Far + 1,
		1 << 61, 1 << 62, math.MaxInt - 1, math.MaxInt,
	}
}

func inBound(n *big.Int) bool {
	return n.Sign() >= 0 && n.Cmp(big.NewInt(api.Far)) <= 0
}

// expectExact holds a call against the number that is worked out without any bound.
func expectExact(t *testing.T, name string, call func(a, b int) (int, bool), exact func(z, a, b *big.Int) *big.Int) {
	t.Helper()
	for _, a := range edges() {
		for _, b := range edges() {
			x, y := big.NewInt(int64(a)), big.NewInt(int64(b))
			z := exact(new(big.Int), x, y)
			want, wantOK := 0, false
			if inBound(x) && inBound(y) && inBound(z) {
				want, wantOK = int(z.Int64()), true
			}
			if n, ok := call(a, b); n != want || ok != wantOK {
				t.Errorf("%s(%d, %d) is %d, %t, want %d, %t", name, a, b, n, ok, want, wantOK)
			}
		}
	}
}

func TestAddIsExactOrRefused(t *testing.T) {
	expectExact(t, "Add", Add, (*big.Int).Add)
}

func TestMulIsExactOrRefused(t *testing.T) {
	expectExact(t, "Mul", Mul, (*big.Int).Mul)
}

func TestAddAndMulAtFar(t *testing.T) {
	for _, x := range []struct {
		name string
		call func(a, b int) (int, bool)
		a, b int
		n    int
		ok   bool
	}{
		{"2 + 3", Add, 2, 3, 5, true},
		{"Far + 0", Add, api.Far, 0, api.Far, true},
		{"0 + Far", Add, 0, api.Far, api.Far, true},
		{"(Far - 1) + 1", Add, api.Far - 1, 1, api.Far, true},
		{"Far + 1", Add, api.Far, 1, 0, false},
		{"(Far + 1) + 0", Add, api.Far + 1, 0, 0, false},
		{"0 + (Far + 1)", Add, 0, api.Far + 1, 0, false},
		{"(Far + 1) + -1", Add, api.Far + 1, -1, 0, false},
		{"-1 + 2", Add, -1, 2, 0, false},
		{"2 * 3", Mul, 2, 3, 6, true},
		{"0 * Far", Mul, 0, api.Far, 0, true},
		{"Far * 0", Mul, api.Far, 0, 0, true},
		{"1 * Far", Mul, 1, api.Far, api.Far, true},
		{"Far / 2 * 2", Mul, api.Far / 2, 2, api.Far, true},
		{"Far * 2", Mul, api.Far, 2, 0, false},
		{"(Far + 1) * 0", Mul, api.Far + 1, 0, 0, false},
		{"0 * (Far + 1)", Mul, 0, api.Far + 1, 0, false},
		{"-1 * -1", Mul, -1, -1, 0, false},
		{"a product that wraps to 0", Mul, 1 << 32, 1 << 32, 0, false},
	} {
		if n, ok := x.call(x.a, x.b); n != x.n || ok != x.ok {
			t.Errorf("%s is %d, %t", x.name, n, ok)
		}
	}
}
