package table

import (
	"cmp"
	"fmt"
	"maps"
	"math"
	"slices"
	"strings"
	"testing"
)

// entry is a key, and what it has.
type entry[K cmp.Ordered, V any] struct {
	k K
	v V
}

func fill[K cmp.Ordered, V any](entries ...entry[K, V]) *Table[K, V] {
	t := New[K, V]()
	for _, e := range entries {
		t.Put(e.k, e.v)
	}
	return t
}

// listing is what Fold meets, in the order in which it does.
func listing[K cmp.Ordered, V any](t *Table[K, V]) []entry[K, V] {
	return Fold(t, nil, func(l []entry[K, V], k K, v V) []entry[K, V] {
		return append(l, entry[K, V]{k, v})
	})
}

// expect holds all that can be told of x against what is to be in it, rising.
func expect[K cmp.Ordered, V comparable](t *testing.T, name string, x *Table[K, V], want ...entry[K, V]) {
	t.Helper()
	if x.Len() != len(want) {
		t.Errorf("%s: Len is %d, want %d", name, x.Len(), len(want))
	}
	var keys []K
	for i, e := range want {
		keys = append(keys, e.k)
		if v, ok := x.Get(e.k); v != e.v || !ok {
			t.Errorf("%s: Get(%v) is %v, %t, want %v", name, e.k, v, ok, e.v)
		}
		if k, v, ok := x.At(i); k != e.k || v != e.v || !ok {
			t.Errorf("%s: At(%d) is %v, %v, %t, want %v", name, i, k, v, ok, e)
		}
	}
	if got := x.Keys(); !slices.Equal(got, keys) {
		t.Errorf("%s: Keys is %v, want %v", name, got, keys)
	}
	if got := listing(x); !slices.Equal(got, want) {
		t.Errorf("%s: Fold meets %v, want %v", name, got, want)
	}
	for _, i := range []int{math.MinInt, -len(want) - 1, -2, -1, len(want), len(want) + 1, math.MaxInt} {
		expectNoneAt(t, name, x, i)
	}
}

func expectNoneAt[K cmp.Ordered, V comparable](t *testing.T, name string, x *Table[K, V], i int) {
	t.Helper()
	k, v, ok := x.At(i)
	if k != *new(K) || v != *new(V) || ok {
		t.Errorf("%s: At(%d) is %v, %v, %t", name, i, k, v, ok)
	}
}

// expectCall holds what Put, Get or Drop answered against what was to be answered.
func expectCall[V comparable](t *testing.T, name string, v V, ok bool, want V, wantOK bool) {
	t.Helper()
	if v != want || ok != wantOK {
		t.Errorf("%s: %v, %t, want %v, %t", name, v, ok, want, wantOK)
	}
}

func TestNewIsEmpty(t *testing.T) {
	x := New[string, int]()
	expect(t, "new", x)
	v, ok := x.Get("")
	expectCall(t, "Get of nothing", v, ok, 0, false)
	v, ok = x.Drop("")
	expectCall(t, "Drop of nothing", v, ok, 0, false)
	expect(t, "behind Get and Drop", x)
}

func TestPutInAnyOrderIsRising(t *testing.T) {
	want := []entry[int, string]{{math.MinInt, "least"}, {-3, "c"}, {0, "zero"}, {7, "g"}, {math.MaxInt, "greatest"}}
	for _, order := range [][]int{{0, 1, 2, 3, 4}, {4, 3, 2, 1, 0}, {2, 0, 4, 1, 3}, {3, 4, 0, 2, 1}} {
		x := New[int, string]()
		for _, i := range order {
			old, was := x.Put(want[i].k, want[i].v)
			expectCall(t, "Put", old, was, "", false)
		}
		expect(t, fmt.Sprint(order), x, want...)
	}
}

func TestTextsRiseByBytes(t *testing.T) {
	x := fill(entry[string, int]{"b", 1}, entry[string, int]{"ab", 2}, entry[string, int]{"", 3},
		entry[string, int]{"B", 4}, entry[string, int]{"a", 5}, entry[string, int]{"\xff", 6}, entry[string, int]{"é", 7})
	expect(t, "texts", x, []entry[string, int]{{"", 3}, {"B", 4}, {"a", 5}, {"ab", 2}, {"b", 1}, {"é", 7}, {"\xff", 6}}...)
}

func TestPutTwiceTellsTheOld(t *testing.T) {
	x := fill(entry[string, int]{"a", 1}, entry[string, int]{"b", 2}, entry[string, int]{"c", 3})
	old, was := x.Put("b", 7)
	expectCall(t, "again", old, was, 2, true)
	expect(t, "again", x, []entry[string, int]{{"a", 1}, {"b", 7}, {"c", 3}}...)
	old, was = x.Put("b", 0)
	expectCall(t, "zero", old, was, 7, true)
	expect(t, "zero", x, []entry[string, int]{{"a", 1}, {"b", 0}, {"c", 3}}...)
	old, was = x.Put("b", 8)
	expectCall(t, "had zero", old, was, 0, true)
	expect(t, "had zero", x, []entry[string, int]{{"a", 1}, {"b", 8}, {"c", 3}}...)
}

func TestGetOfWhatIsNotThere(t *testing.T) {
	x := fill(entry[int, int]{2, 20}, entry[int, int]{4, 40})
	for _, k := range []int{math.MinInt, 0, 1, 3, 5, math.MaxInt} {
		v, ok := x.Get(k)
		expectCall(t, fmt.Sprint("Get ", k), v, ok, 0, false)
		v, ok = x.Drop(k)
		expectCall(t, fmt.Sprint("Drop ", k), v, ok, 0, false)
	}
	expect(t, "behind them", x, []entry[int, int]{{2, 20}, {4, 40}}...)
}

func TestDropAndPutAgain(t *testing.T) {
	x := fill(entry[int, int]{1, 10}, entry[int, int]{2, 20}, entry[int, int]{3, 30})
	v, ok := x.Drop(2)
	expectCall(t, "Drop", v, ok, 20, true)
	expect(t, "dropped", x, []entry[int, int]{{1, 10}, {3, 30}}...)
	v, ok = x.Get(2)
	expectCall(t, "Get of what is dropped", v, ok, 0, false)
	v, ok = x.Drop(2)
	expectCall(t, "Drop again", v, ok, 0, false)
	old, was := x.Put(2, 21)
	expectCall(t, "Put again", old, was, 0, false)
	expect(t, "put again", x, []entry[int, int]{{1, 10}, {2, 21}, {3, 30}}...)
}

func TestDropAtTheEndsTillNothingIsLeft(t *testing.T) {
	x := fill(entry[int, int]{1, 10}, entry[int, int]{2, 0}, entry[int, int]{3, 30})
	v, ok := x.Drop(1)
	expectCall(t, "the first", v, ok, 10, true)
	v, ok = x.Drop(3)
	expectCall(t, "the last", v, ok, 30, true)
	expect(t, "one left", x, entry[int, int]{2, 0})
	v, ok = x.Drop(2)
	expectCall(t, "a key that has zero", v, ok, 0, true)
	expect(t, "nothing left", x)
	x.Put(5, 50)
	expect(t, "one more", x, entry[int, int]{5, 50})
}

func TestFoldGoesFromFirstToLast(t *testing.T) {
	x := fill(entry[string, int]{"b", 2}, entry[string, int]{"c", 3}, entry[string, int]{"a", 1})
	by := func(s, k string, v int) string { return "(" + s + k + fmt.Sprint(v) + ")" }
	if got := Fold(x, "f", by); got != "(((fa1)b2)c3)" {
		t.Error(got)
	}
	expect(t, "behind Fold", x, []entry[string, int]{{"a", 1}, {"b", 2}, {"c", 3}}...)
}

func TestFoldOverNothing(t *testing.T) {
	by := func(a, k, v int) int { t.Error("by is called"); return 0 }
	gone := fill(entry[int, int]{1, 2})
	gone.Drop(1)
	for name, x := range map[string]*Table[int, int]{"nil": nil, "new": New[int, int](), "zero": {}, "all dropped": gone} {
		if got := Fold(x, 7, by); got != 7 {
			t.Errorf("%s: %d", name, got)
		}
		if got := Fold(x, 7, nil); got != 7 {
			t.Errorf("%s, no by: %d", name, got)
		}
	}
}

func TestFoldWhileByChangesTheTable(t *testing.T) {
	x := fill(entry[int, int]{1, 10}, entry[int, int]{2, 20}, entry[int, int]{3, 30})
	got := Fold(x, "", func(s string, k, v int) string {
		x.Drop(k)
		x.Drop(3)
		x.Put(k+10, v)
		x.Put(2, 99)
		return s + fmt.Sprint(k, v, ";")
	})
	if got != "1 10;2 20;3 30;" {
		t.Error(got)
	}
	expect(t, "behind it", x, []entry[int, int]{{2, 99}, {11, 10}, {12, 20}, {13, 30}}...)
}

// A wrong by is no ground to panic: none panics, whatever it is given.
func TestFoldByWhatCannotBeCalled(t *testing.T) {
	x := fill(entry[int, int]{1, 10}, entry[int, int]{2, 20})
	if got := Fold(x, 7, nil); got != 7 {
		t.Error("no by", got)
	}
	for _, why := range []any{"text", fmt.Errorf("error"), nil} {
		got := Fold(x, 7, func(a, k, v int) int {
			if k == 2 {
				panic(why)
			}
			return a + v
		})
		if got != 7 {
			t.Error("by panics", got)
		}
	}
	expect(t, "behind them", x, []entry[int, int]{{1, 10}, {2, 20}}...)
}

func TestFoldInAFold(t *testing.T) {
	x := fill(entry[int, int]{1, 10}, entry[int, int]{2, 20})
	got := Fold(x, 0, func(a, k, v int) int {
		return a + k*Fold(x, 0, func(a, k, v int) int { return a + v })
	})
	if got != 90 {
		t.Error(got)
	}
}

func TestNilTableKeepsNothing(t *testing.T) {
	var x *Table[string, int]
	old, was := x.Put("a", 1)
	expectCall(t, "Put", old, was, 0, false)
	old, was = x.Put("a", 2)
	expectCall(t, "Put again", old, was, 0, false)
	v, ok := x.Get("a")
	expectCall(t, "Get", v, ok, 0, false)
	v, ok = x.Drop("a")
	expectCall(t, "Drop", v, ok, 0, false)
	expect(t, "nil", x)
}

func TestZeroTableIsEmpty(t *testing.T) {
	var x Table[int, int]
	expect(t, "zero", &x)
	x.Put(1, 10)
	expect(t, "zero, with one", &x, entry[int, int]{1, 10})
}

func TestKeysIsNewMemory(t *testing.T) {
	x := fill(entry[int, int]{1, 10}, entry[int, int]{2, 20}, entry[int, int]{3, 30})
	want := []entry[int, int]{{1, 10}, {2, 20}, {3, 30}}
	first, second := x.Keys(), x.Keys()
	for i := range first {
		first[i] = -9
	}
	_ = append(first[:1], -8, -7, -6)
	expect(t, "a list is written", x, want...)
	if !slices.Equal(second, []int{1, 2, 3}) {
		t.Error("two lists share memory:", second)
	}
	x.Drop(1)
	x.Put(0, 0)
	if !slices.Equal(second, []int{1, 2, 3}) {
		t.Error("a list changes with the table:", second)
	}
}

func TestKeysBehindItsEndIsNewMemory(t *testing.T) {
	x := fill(entry[int, int]{1, 10}, entry[int, int]{2, 20})
	x.Drop(2)
	l := x.Keys()
	x.Put(2, 21)
	_ = append(l, -9)
	expect(t, "a list is longer", x, []entry[int, int]{{1, 10}, {2, 21}}...)
	l = New[int, int]().Keys()
	if len(l) != 0 {
		t.Error("no keys:", l)
	}
}

func TestTablesAreApart(t *testing.T) {
	a, b := New[int, int](), New[int, int]()
	a.Put(1, 10)
	expect(t, "a", a, entry[int, int]{1, 10})
	expect(t, "b", b)
	b.Put(1, 11)
	a.Drop(1)
	expect(t, "a", a)
	expect(t, "b", b, entry[int, int]{1, 11})
}

func TestFloatThatIsNoNumberIsNoKey(t *testing.T) {
	x := fill(entry[float64, int]{2, 20}, entry[float64, int]{math.Inf(1), 3}, entry[float64, int]{math.Inf(-1), 1})
	want := []entry[float64, int]{{math.Inf(-1), 1}, {2, 20}, {math.Inf(1), 3}}
	for range 2 {
		old, was := x.Put(math.NaN(), 9)
		expectCall(t, "Put", old, was, 0, false)
		v, ok := x.Get(math.NaN())
		expectCall(t, "Get", v, ok, 0, false)
		v, ok = x.Drop(math.NaN())
		expectCall(t, "Drop", v, ok, 0, false)
		expect(t, "no number", x, want...)
	}
}

func TestBothNoughtsAreOneKey(t *testing.T) {
	x := fill(entry[float64, int]{0, 1})
	old, was := x.Put(math.Copysign(0, -1), 2)
	expectCall(t, "Put", old, was, 1, true)
	expect(t, "noughts", x, entry[float64, int]{0, 2})
}

// name is a key of a type of its own.
type name string

func TestValuesOfAnyKind(t *testing.T) {
	x := New[name, []int]()
	x.Put("l", []int{1, 2})
	x.Put("none", nil)
	if v, ok := x.Get("none"); v != nil || !ok {
		t.Error("none", v, ok)
	}
	if old, was := x.Put("l", nil); !slices.Equal(old, []int{1, 2}) || !was {
		t.Error("l", old, was)
	}
	if v, ok := x.Drop("l"); v != nil || !ok {
		t.Error("l", v, ok)
	}
	inner := New[uint8, *Table[name, []int]]()
	inner.Put(255, x)
	inner.Put(0, nil)
	if v, ok := inner.Get(255); v != x || !ok {
		t.Error("a table in a table", v, ok)
	}
}

// What is dropped, or replaced, is needed by no promise any more, so no memory of the table may hold it.
func TestWhatIsGoneIsNotKept(t *testing.T) {
	x := fill([]entry[string, string]{{"a", "first"}, {"b", "stays"}, {"c", "replaced"}, {"d", "last"}}...)
	x.Put("c", "")
	x.Drop("d")
	x.Drop("a")
	held := slices.Concat(x.keys[:cap(x.keys)], x.values[:cap(x.values)])
	for _, gone := range []string{"a", "d", "first", "replaced", "last"} {
		if slices.Contains(held, gone) {
			t.Error("kept:", gone)
		}
	}
}

// expectModel holds x against a map of the same things.
func expectModel(t *testing.T, did string, x *Table[int, int], model map[int]int) {
	t.Helper()
	var want []entry[int, int]
	for _, k := range slices.Sorted(maps.Keys(model)) {
		want = append(want, entry[int, int]{k, model[k]})
	}
	expect(t, did, x, want...)
}

// Every run of six calls, each a Put or a Drop of one of three keys, against a map.
func TestCallsBySixes(t *testing.T) {
	const keys, calls = 3, 6
	runs := 1
	for range calls {
		runs *= 2 * keys
	}
	for run := range runs {
		x, model := New[int, int](), map[int]int{}
		var did strings.Builder
		for i, r := 0, run; i < calls; i, r = i+1, r/(2*keys) {
			k, put := r%keys, r/keys%2 == 0
			fmt.Fprint(&did, k, put, ";")
			doBoth(t, did.String(), x, model, k, i+1, put)
		}
		expectModel(t, did.String(), x, model)
		if t.Failed() {
			return
		}
	}
}

// A long run of calls over many keys, against a map.
func TestManyCalls(t *testing.T) {
	x, model := New[int, int](), map[int]int{}
	seed := uint32(1)
	for i := range 20000 {
		seed = seed*1664525 + 1013904223
		k, put := int((seed>>8)%700)-350, seed>>30 != 0
		doBoth(t, "many", x, model, k, i, put)
		if i%2000 == 0 {
			expectModel(t, "many", x, model)
		}
		if t.Failed() {
			return
		}
	}
	expectModel(t, "many", x, model)
}

func doBoth(t *testing.T, did string, x *Table[int, int], model map[int]int, k, v int, put bool) {
	t.Helper()
	want, wantOK := model[k]
	if put {
		old, was := x.Put(k, v)
		expectCall(t, did, old, was, want, wantOK)
		model[k] = v
		return
	}
	old, ok := x.Drop(k)
	expectCall(t, did, old, ok, want, wantOK)
	delete(model, k)
}
