package incl

import (
	"math/bits"
	"strconv"

	"columbary/api"
	"columbary/auto"
	"columbary/bag"
	"columbary/meter"
)

// maxPeriods is of how many Periods all choices are tried.
const maxPeriods = 20

// maxLetters is how many letters of a word are read.
const maxLetters = 60

// pair is where a search stands: what is still to come of its linear set, where the other set stands, and the word so far.
type pair struct {
	carry api.Bag
	items []api.Item
	word  api.Bag
}

// search looks for a word of one linear set that is none of b's.
type search struct {
	m       *meter.Meter
	b       api.Semi
	letters int // how many were read ahead of the pairs that are taken
	put     []pair
	met     map[string]struct{}
}

// within is Within of one linear set, both sets being Right.
func within(m *meter.Meter, l api.Lin, b api.Semi) (ok bool, w api.Bag, e api.Errno) {
	s := search{m: m, b: b, met: map[string]struct{}{}}
	if e = s.add(pair{carry: l.Base, items: auto.Start(b)}); e != api.OK {
		return false, nil, e
	}
	// All pairs behind as many letters are taken together: so no pair need say how many were read, and what was taken is let go.
	for ; len(s.put) > 0; s.letters++ {
		taken := s.put
		s.put = nil
		for _, p := range taken {
			if len(p.carry) == 0 && !auto.Final(p.items) {
				return false, p.word, api.OK
			}
			if e = s.behind(p, l.Periods); e != api.OK {
				return false, nil, e
			}
		}
	}
	return true, nil, api.OK
}

// add puts p in, if it was not met.
func (s *search) add(p pair) api.Errno {
	k := key(p)
	if _, was := s.met[k]; was {
		return api.OK
	}
	if !s.m.Spend(1) {
		return api.ErrWork
	}
	s.met[k] = struct{}{}
	s.put = append(s.put, p)
	return api.OK
}

// behind puts in what is one letter behind p.
func (s *search) behind(p pair, periods []api.Bag) api.Errno {
	if len(periods) > maxPeriods || s.letters >= maxLetters {
		return api.ErrLimit
	}
	return s.choices(p, p.carry, periods)
}

// choices puts in what is one letter behind p for each choice of the periods beside sum. The last period is the highest digit of a choice's number, so all choices without it come first.
func (s *search) choices(p pair, sum api.Bag, periods []api.Bag) api.Errno {
	if len(periods) == 0 {
		return s.read(p, sum)
	}
	last := len(periods) - 1
	if e := s.choices(p, sum, periods[:last]); e != api.OK {
		return e
	}
	// This sum is that of the first choice with the last period: if it is too much, none ahead of that choice was.
	more, ok := bag.Add(sum, periods[last])
	if !ok {
		return api.ErrLimit
	}
	return s.choices(p, more, periods[:last])
}

// read puts in what is behind the letter that is odd in sum.
func (s *search) read(p pair, sum api.Bag) api.Errno {
	letter := auto.Letter(sum, 0)
	items, e := auto.Next(s.m, s.b, p.items, letter)
	if e != api.OK {
		return e
	}
	return s.add(pair{half(sum), items, longer(p.word, letter, s.letters)})
}

// half is half of each number, rounded down.
func half(w api.Bag) api.Bag {
	h := make(api.Bag, len(w))
	for tag, n := range w {
		h[tag] = n / 2
	}
	return bag.Norm(h)
}

// longer is w with the letter's tags, which stand for that binary digit.
func longer(w api.Bag, letter uint, digit int) api.Bag {
	more := make(api.Bag, bits.Len(letter))
	for tag := range more {
		more[tag] = int(letter>>tag&1) << digit
	}
	sum, _ := bag.Add(w, more)
	return sum
}

// key is a text that is another one for each carry with other items: a map can't have lists as keys. A blank ends each number of a word, a colon what an item is of.
func key(p pair) string {
	k := appendWord(nil, p.carry)
	for _, it := range p.items {
		k = strconv.AppendInt(k, int64(it.J), 10)
		k = appendWord(append(k, ':'), it.Carry)
	}
	return string(k)
}

func appendWord(k []byte, w api.Bag) []byte {
	for _, n := range w {
		k = strconv.AppendInt(k, int64(n), 10)
		k = append(k, ' ')
	}
	return k
}
