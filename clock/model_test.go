package clock_test

import (
	"math/big"
	"slices"

	"keepsake/api"
)

// What stands here are the chapter's words once more: a clock as the row of all times that it took, and numbers held against each other that have no bounds of their own.

// latest is 2 to the power of 40, worked out as a number without bounds.
func latest() *big.Int { return new(big.Int).Exp(big.NewInt(2), big.NewInt(40), nil) }

func wide(t int) *big.Int { return big.NewInt(int64(t)) }

// mayBe: from 0 to 2^40.
func mayBe(t int) bool { return wide(t).Sign() >= 0 && wide(t).Cmp(latest()) <= 0 }

// plain is a clock: all that it took, the first time too, as it came. One that took nothing no call made.
type plain struct{ took []int }

func plainOf(now int) (*plain, api.Errno) {
	if !mayBe(now) {
		return nil, api.ErrArg
	}
	return &plain{[]int{now}}, api.OK
}

func (p *plain) tick(t int) api.Errno {
	if len(p.took) == 0 {
		return api.ErrNil
	}
	if !mayBe(t) {
		return api.ErrArg
	}
	for _, had := range p.took {
		if wide(had).Cmp(wide(t)) > 0 {
			return api.ErrBack
		}
	}
	p.took = append(p.took, t)
	return api.OK
}

// now is what it took last.
func (p *plain) now() int {
	for _, t := range slices.Backward(p.took) {
		return t
	}
	return 0
}

// past: did it take anything that is at least t? As it never goes back, it then shows at least t.
func (p *plain) past(t int) bool {
	for _, had := range p.took {
		if wide(had).Cmp(wide(t)) >= 0 {
			return true
		}
	}
	return false
}

// clamp sorts the four numbers that count: the greatest of 0 and both, and no more than 2^40.
func clamp(now, t int) int {
	l := []int{0, now, t}
	slices.SortFunc(l, func(a, b int) int { return wide(a).Cmp(wide(b)) })
	if most := latest(); wide(l[2]).Cmp(most) > 0 {
		return int(most.Int64())
	}
	return l[2]
}
