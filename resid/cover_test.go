package resid

import (
	"math"
	"slices"
	"testing"

	"columbary/api"
	"columbary/semi"
)

func TestCoverOfNothing(t *testing.T) {
	for _, s := range []api.Semi{nil, {}} {
		for _, free := range []bool{false, true} {
			for _, tags := range [][]int{nil, {}, {0}, {0, 1, 2}, {-1}, {api.MaxMsgs}} {
				expectCover(t, s, free, tags, true, nil)
			}
		}
	}
}

func TestCoverOfWhatIsNotRight(t *testing.T) {
	everything := []int{0, 1, 2, 3, 4, 5, 6, 7, 8, 9, 10, 11}
	for name, s := range wrongSemis() {
		for _, free := range []bool{false, true} {
			for _, tags := range [][]int{nil, {0}, {1}, everything, {-1, api.MaxMsgs}} {
				if ok, w := Cover(s, free, tags...); ok || len(w) > 0 {
					t.Errorf("Cover of %s, %v, %v is %v, %v", name, free, tags, ok, w)
				}
			}
		}
	}
	// A word that is none such, ahead of what is wrong, is not told.
	expectCover(t, api.Semi{set(api.Bag{3}), set(api.Bag{2})}, true, nil, false, nil)
	expectCover(t, api.Semi{set(api.Bag{3}), set(api.Bag{4}, api.Bag{0})}, true, nil, false, nil)
}

func TestCoverOfTheEmptyWordAlone(t *testing.T) {
	for _, tags := range [][]int{nil, {0}, {0, 1, 2, 3, 4, 5, 6, 7, 8, 9, 10, 11}, {-1}} {
		expectCover(t, semi.One(), true, tags, true, nil)
		expectCover(t, semi.One(), false, tags, false, nil)
	}
}

func TestCoverOfPatterns(t *testing.T) {
	for _, x := range []struct {
		text string
		free bool
		tags []int
		ok   bool
		w    api.Bag
	}{
		{"0", false, nil, true, nil},
		{"a", false, []int{0}, true, nil}, {"a", true, []int{0}, true, nil}, {"a", false, []int{1}, false, api.Bag{1}}, {"a", true, []int{1}, false, api.Bag{1}}, {"a", true, nil, false, api.Bag{1}},
		{"a . b", false, []int{0}, true, nil}, {"a . b", false, []int{1}, true, nil}, {"a . b", false, []int{2}, false, api.Bag{1, 1}},
		{"a + b", false, []int{0, 1}, true, nil}, {"a + b", false, []int{0}, false, api.Bag{0, 1}}, {"a + b", false, []int{1}, false, api.Bag{1}},
		{"1 + a", false, []int{0}, false, nil}, {"1 + a", true, []int{0}, true, nil}, {"1 + a", true, []int{1}, false, api.Bag{1}},
		{"*a", true, []int{0}, true, nil}, {"*a", false, []int{0}, false, nil}, {"*a", true, []int{1}, false, api.Bag{1}},
		{"*(a + b)", true, []int{0, 1}, true, nil}, {"*(a + b)", true, []int{0}, false, api.Bag{0, 1}}, {"*(a . b)", true, []int{0}, true, nil}, {"*(a . b)", true, []int{1}, true, nil}, {"*(a . b)", true, []int{2}, false, api.Bag{1, 1}},
		{"*a . b", false, []int{1}, true, nil}, {"*a . b", false, []int{0}, false, api.Bag{0, 1}}, {"*a . b", true, []int{0}, false, api.Bag{0, 1}},
		{"*a . (1 + b)", true, []int{0}, false, api.Bag{0, 1}}, {"*a . (1 + b)", true, []int{1}, false, api.Bag{1}}, {"*a . (1 + b)", true, []int{0, 1}, true, nil}, {"*a . (1 + b)", false, []int{0, 1}, false, nil},
		{"a^5 . b", false, []int{0}, true, nil}, {"*(a^5)", true, []int{0}, true, nil}, {"*(a^5)", true, []int{1}, false, api.Bag{5}},
	} {
		expectCover(t, of(t, x.text), x.free, x.tags, x.ok, x.w)
	}
}

func TestCoverOfABase(t *testing.T) {
	x, y := api.Bag{1}, api.Bag{0, 1}
	for _, free := range []bool{false, true} {
		// It has one of them: so has each word, whatever its Periods have.
		for _, tags := range [][]int{{0}, {0, 1}, {1, 0}, {2, 0, 0}, {-1, 0}} {
			for _, l := range []api.Lin{set(x), set(api.Bag{far}), set(x, x), set(x, y), set(api.Bag{2, 0, 3}, x, y, api.Bag{0, 0, 1})} {
				expectCover(t, api.Semi{l}, free, tags, true, nil)
			}
		}
		expectCover(t, api.Semi{set(last(1), x)}, free, []int{11}, true, nil)
		expectCover(t, api.Semi{set(api.Bag{0, 0, 1, 0, 2})}, free, []int{4}, true, nil)
		// It has none: it is told, whatever its Periods have.
		for _, l := range []api.Lin{set(y), set(y, x), set(y, y), set(y, x, api.Bag{1, 1})} {
			expectCover(t, api.Semi{l}, free, []int{0}, false, y)
			expectCover(t, api.Semi{l}, free, []int{0, 2, 3}, false, y)
			expectCover(t, api.Semi{l}, free, nil, false, y)
		}
		expectCover(t, api.Semi{set(api.Bag{3, 0, far}, y)}, free, []int{1}, false, api.Bag{3, 0, far})
		expectCover(t, api.Semi{set(last(7))}, free, []int{0, 1, 2, 3, 4, 5, 6, 7, 8, 9, 10}, false, last(7))
		expectCover(t, api.Semi{set(x)}, free, []int{1, 2, 3, 4, 5, 6, 7, 8, 9, 10, 11}, false, x)
	}
	// An empty one is told, if it is not free, whatever its Periods have.
	for _, l := range []api.Lin{set(nil), set(nil, x), set(nil, y), set(nil, x, y), numbered(40)} {
		expectCover(t, api.Semi{l}, false, []int{0}, false, nil)
		expectCover(t, api.Semi{l}, false, nil, false, nil)
	}
}

func TestCoverOfPeriods(t *testing.T) {
	x, y, z, xy := api.Bag{1}, api.Bag{0, 1}, api.Bag{0, 0, 1}, api.Bag{1, 1}
	for _, c := range []struct {
		periods []api.Bag
		tags    []int
		ok      bool
		w       api.Bag
	}{
		// Each has one of them.
		{nil, nil, true, nil}, {[]api.Bag{x}, []int{0}, true, nil}, {[]api.Bag{x, xy}, []int{0}, true, nil}, {[]api.Bag{x, y, z}, []int{2, 0, 1}, true, nil}, {[]api.Bag{y, xy, api.Bag{0, 5, 5}}, []int{1}, true, nil}, {[]api.Bag{x, y, xy, z}, []int{0, 1, 2}, true, nil},
		{[]api.Bag{x, y}, []int{0, 1, 7}, true, nil}, {[]api.Bag{last(1), last(2)}, []int{11}, true, nil},
		// One has none.
		{[]api.Bag{x}, nil, false, x}, {[]api.Bag{x}, []int{1}, false, x}, {[]api.Bag{x, y, z}, []int{0, 1}, false, z}, {[]api.Bag{x, y, z}, []int{0, 2}, false, y}, {[]api.Bag{x, y, z}, []int{1, 2}, false, x}, {[]api.Bag{x, y, xy, z}, []int{0, 2}, false, y},
		{[]api.Bag{x, last(far)}, []int{0, 10}, false, last(far)},
		// More have none: the first is told.
		{[]api.Bag{x, y, z}, []int{0}, false, y}, {[]api.Bag{x, y, z}, []int{1}, false, x}, {[]api.Bag{x, y, z}, []int{2}, false, x}, {[]api.Bag{x, y, z}, nil, false, x}, {[]api.Bag{x, api.Bag{2}, api.Bag{3, 1}, z}, []int{1}, false, x},
		{[]api.Bag{xy, z, api.Bag{0, 0, 2}}, []int{0}, false, z}, {[]api.Bag{api.Bag{4}, api.Bag{7}, api.Bag{7, 7}}, []int{1}, false, api.Bag{4}},
	} {
		s := api.Semi{set(nil, c.periods...)}
		if !semi.Right(s) {
			t.Fatal(s)
		}
		expectCover(t, s, true, c.tags, c.ok, c.w)
	}
}

func TestCoverOfSeveralSets(t *testing.T) {
	x, y, z := api.Bag{1}, api.Bag{0, 1}, api.Bag{0, 0, 1}
	s := api.Semi{set(nil), set(nil, x), set(x, y, z), set(y), set(api.Bag{0, 2}, z), set(z, x), set(api.Bag{1, 0, 1})}
	for _, c := range []struct {
		free bool
		tags []int
		ok   bool
		w    api.Bag
	}{
		{true, []int{0, 1, 2}, true, nil}, {true, []int{0, 1}, false, z}, {true, []int{0, 2}, false, y}, {true, []int{1, 2}, false, x}, {true, []int{0}, false, y}, {true, nil, false, x}, {false, []int{0, 1, 2}, false, nil}, {false, nil, false, nil},
	} {
		expectCover(t, s, c.free, c.tags, c.ok, c.w)
	}
	// The first is as it may be, the second is not; the last alone is not; each is not.
	expectCover(t, api.Semi{set(x), set(y)}, false, []int{0}, false, y)
	expectCover(t, api.Semi{set(x), set(api.Bag{2}), set(y), set(z)}, false, []int{0, 1}, false, z)
	expectCover(t, api.Semi{set(x), set(api.Bag{2}), set(y), set(z)}, false, []int{3}, false, x)
	// A word of the first set is told, though one behind it is shorter or is a base.
	expectCover(t, api.Semi{set(nil, api.Bag{0, 5, 5}), set(y)}, true, []int{0}, false, api.Bag{0, 5, 5})
	expectCover(t, api.Semi{set(nil, x), set(nil, y), set(x)}, true, []int{0}, false, y)
	expectCover(t, api.Semi{set(nil, x, y), set(z)}, true, []int{0, 1}, false, z)
	// The empty word is one of each of two sets, and one period is told of the second.
	expectCover(t, api.Semi{set(nil), set(nil, z)}, true, []int{0}, false, z)
	expectCover(t, api.Semi{set(nil), set(nil, x), set(nil, x, z)}, true, []int{0}, false, z)
}

// What is no tag is one that no word has.
func TestCoverOfTagsThatAreNone(t *testing.T) {
	none := []int{-1, -2, api.MaxMsgs, api.MaxMsgs + 1, -api.MaxMsgs, 99, far, -far, math.MaxInt, math.MinInt, 1 << 32, 1<<32 + 1, -1 << 32}
	everything := api.Semi{set(slices.Repeat(api.Bag{1}, api.MaxMsgs))}
	for _, tag := range none {
		expectCover(t, everything, true, []int{tag}, false, everything[0].Base)
		expectCover(t, everything, true, []int{tag, 0}, true, nil)
		expectCover(t, everything, true, []int{11, tag}, true, nil)
		expectCover(t, api.Semi{set(nil, everything[0].Base)}, true, []int{tag}, false, everything[0].Base)
		expectCover(t, semi.One(), true, []int{tag}, true, nil)
	}
	expectCover(t, everything, false, none, false, everything[0].Base)
	expectCover(t, everything, false, append(none, 5), true, nil)
}

func TestCoverOfATagTwice(t *testing.T) {
	s := of(t, "1 + a + b . c")
	expectCover(t, s, true, []int{0, 0, 1, 1, 0}, true, nil)
	expectCover(t, s, true, []int{0, 0}, false, api.Bag{0, 1, 1})
	expectCover(t, s, true, []int{1, 1, 1}, false, api.Bag{1})
	expectCover(t, s, true, slices.Repeat([]int{0, 2}, 1000), true, nil)
}

// Each tag is one that may be asked for, and each stands for itself alone.
func TestCoverOfEachTag(t *testing.T) {
	for tag := range api.MaxMsgs {
		w := append(make(api.Bag, tag), 3)
		for asked := range api.MaxMsgs {
			for _, s := range []api.Semi{{set(w)}, {set(nil, w)}} {
				if asked == tag {
					expectCover(t, s, true, []int{asked}, true, nil)
				} else {
					expectCover(t, s, true, []int{asked}, false, w)
				}
			}
		}
	}
}
