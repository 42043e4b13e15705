// Package meter counts work against a budget, and adds and multiplies numbers that stay within api.Far.
package meter

import (
	"columbary/api"
)

// Meter is a budget, and what was spent of it; a nil Meter has no bound.
type Meter struct {
	budget, spent int
	out           bool
}

// New makes a meter of which budget may be spent.
func New(budget int) *Meter {
	if budget < 0 {
		budget = 0
	}
	return &Meter{budget: budget}
}

// Spend spends n more, if that much is left and nothing was refused before.
func (m *Meter) Spend(n int) bool {
	if m == nil {
		return true
	}
	if n < 0 {
		n = 0
	}
	// n is held against what is left, since spent + n could wrap round.
	if m.out || n > m.budget-m.spent {
		m.out = true
		return false
	}
	m.spent += n
	return true
}

// Spent tells how much was spent.
func (m *Meter) Spent() int {
	if m == nil {
		return 0
	}
	return m.spent
}

// Out tells whether a Spend was refused.
func (m *Meter) Out() bool {
	return m != nil && m.out
}

// Add is a + b, if neither of them nor the sum is below 0 or beyond api.Far.
func Add(a, b int) (n int, ok bool) {
	if !counts(a) || !counts(b) || a > api.Far-b {
		return 0, false
	}
	return a + b, true
}

// Mul is a * b, if neither of them nor the product is below 0 or beyond api.Far.
func Mul(a, b int) (n int, ok bool) {
	if !counts(a) || !counts(b) {
		return 0, false
	}
	// The bound is divided, since a * b could wrap round.
	if a != 0 && b > api.Far/a {
		return 0, false
	}
	return a * b, true
}

func counts(n int) bool {
	return 0 <= n && n <= api.Far
}
