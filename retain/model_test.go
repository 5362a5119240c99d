package retain_test

import (
	"regexp"
	"slices"

	"keepsake/api"
)

// What stands here are the chapter's words once more: a book as the row of all records that it took, gone through anew for whatever is asked.

const (
	lastEpoch = 4294967295
	lastTime  = 1099511627776
	lastCount = 4096
	mostHolds = 64
)

// The kinds, as the constants of api number them.
const (
	closing   = 1
	retaining = 2
	holding   = 3
	releasing = 4
	purging   = 5
)

var nameForm = regexp.MustCompile(`\A[a-z0-9]{1,16}\z`)

func within(n, most int) bool { return n >= 0 && n <= most }

// mayBe are chapter 19's words of a record that may be. What its kind does not say is nought or empty.
func mayBe(r api.Record) bool {
	if !within(r.Epoch, lastEpoch) || !within(r.Time, lastTime) {
		return false
	}
	means := r.Target >= 0 && r.Target < r.Epoch
	until := within(r.Until, lastTime)
	switch r.Kind {
	case closing:
		return within(r.Count, lastCount) && len(r.Root) == 32 && r.Target == 0 && r.Until == 0 && r.Name == ""
	case retaining, purging:
		return means && until && r.Count == 0 && r.Root == "" && r.Name == ""
	case holding:
		return means && nameForm.MatchString(r.Name) && r.Count == 0 && r.Until == 0 && r.Root == ""
	case releasing:
		return nameForm.MatchString(r.Name) && r.Count == 0 && r.Target == 0 && r.Until == 0 && r.Root == ""
	}
	return false
}

// plain is a book: where it begins, and all records that it took, as they came. One that was not made no call made.
type plain struct {
	made  bool
	first int
	took  []api.Record
}

func plainOf(first int) (*plain, api.Errno) {
	if !within(first, lastEpoch) {
		return nil, api.ErrArg
	}
	return &plain{made: true, first: first}, api.OK
}

// epoch: the first one, and from there on one more behind each closure.
func (p *plain) epoch() int {
	n := p.first
	for _, r := range p.took {
		if r.Kind == closing {
			n++
		}
	}
	return n
}

func (p *plain) now() int {
	if len(p.took) == 0 {
		return 0
	}
	return p.took[len(p.took)-1].Time
}

// until: what was said of the epoch last.
func (p *plain) until(epoch int) int {
	for _, r := range slices.Backward(p.took) {
		if r.Kind == retaining && r.Target == epoch {
			return r.Until
		}
	}
	return 0
}

// hold is whether a name is that of a hold, and of which epoch: what was said of the name last.
func (p *plain) hold(name string) (int, bool) {
	for _, r := range slices.Backward(p.took) {
		if r.Name == name && (r.Kind == holding || r.Kind == releasing) {
			return r.Target, r.Kind == holding
		}
	}
	return 0, false
}

// names are all that were ever said, once each, rising.
func (p *plain) names() []string {
	var l []string
	for _, r := range p.took {
		if r.Name != "" {
			l = append(l, r.Name)
		}
	}
	slices.Sort(l)
	return slices.Compact(l)
}

func (p *plain) held(epoch int) []string {
	var l []string
	for _, name := range p.names() {
		if its, is := p.hold(name); is && its == epoch {
			l = append(l, name)
		}
	}
	return l
}

func (p *plain) holds() int {
	n := 0
	for _, name := range p.names() {
		if _, is := p.hold(name); is {
			n++
		}
	}
	return n
}

func (p *plain) gone(epoch int) bool {
	return slices.ContainsFunc(p.took, func(r api.Record) bool { return r.Kind == purging && r.Target == epoch })
}

// may goes through P23.2, word by word.
func (p *plain) may(r api.Record) api.Errno {
	if !p.made {
		return api.ErrNil
	}
	if !mayBe(r) {
		return api.ErrArg
	}
	if r.Epoch != p.epoch() || r.Time < p.now() {
		return api.ErrChain
	}
	if r.Kind == closing {
		return api.OK
	}
	_, isHold := p.hold(r.Name)
	hasTarget := r.Kind == retaining || r.Kind == holding || r.Kind == purging
	of := func(kind int, is bool) bool { return r.Kind == kind && is }
	for _, x := range []struct {
		holds bool
		why   api.Errno
	}{
		{hasTarget && r.Target < p.first, api.ErrNone},
		{of(releasing, !isHold), api.ErrNone},
		{hasTarget && p.gone(r.Target), api.ErrPurged},
		{of(retaining, r.Until < p.until(r.Target)), api.ErrLess},
		{of(holding, isHold), api.ErrTwice},
		{of(holding, p.holds() == mostHolds), api.ErrFull},
		{of(purging, r.Time < p.until(r.Target)), api.ErrEarly},
		{of(purging, len(p.held(r.Target)) != 0), api.ErrHeld},
		{of(purging, r.Until != p.until(r.Target)), api.ErrArg},
	} {
		if x.holds {
			return x.why
		}
	}
	return api.OK
}

func (p *plain) apply(r api.Record) api.Errno {
	e := p.may(r)
	if e == api.OK {
		p.took = append(p.took, r)
	}
	return e
}

func (p *plain) copied() *plain { return &plain{p.made, p.first, slices.Clone(p.took)} }
