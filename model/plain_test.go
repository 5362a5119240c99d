package model_test

import (
	"regexp"
	"slices"
	"strings"

	"keepsake/api"
)

// What stands here are the chapter's words once more: a model as the row of all calls that it took, with the epoch and the time of each, gone through anew for whatever is asked.

const (
	lastEpoch = 4294967295
	lastTime  = 1099511627776
	mostData  = 4000
	mostHolds = 64
)

// The kinds of calls and of records, as the constants of api number them.
const (
	write   = 1
	read    = 2
	readAt  = 3
	sync    = 4
	closing = 5
	keep    = 6
	hold    = 7
	release = 8
	purge   = 9
	stat    = 10
	tick    = 11

	recClose   = 1
	recRetain  = 2
	recHold    = 3
	recRelease = 4
	recPurge   = 5
)

var nameForm = regexp.MustCompile(`\A[a-z0-9]{1,16}\z`)

// taken is a call that was taken, in which epoch, and when.
type taken struct {
	call        api.Call
	epoch, time int
}

// plain is a model: its shape, and all that it took. One that was not made no call made.
type plain struct {
	made bool
	geo  api.Geo
	row  []taken
}

func within(n, least, most int) bool { return n >= least && n <= most }

func plainOf(g api.Geo) (*plain, api.Errno) {
	if !within(g.Blocks, 8, 1024) || !within(g.Lbas, 1, 4096) || !within(g.First, 0, lastEpoch) {
		return nil, api.ErrArg
	}
	return &plain{made: true, geo: g}, api.OK
}

func (p *plain) copied() *plain { return &plain{p.made, p.geo, slices.Clone(p.row)} }

// count tells how many of these kinds were taken.
func (p *plain) count(kinds ...int) int {
	n := 0
	for _, t := range p.row {
		if slices.Contains(kinds, t.call.Kind) {
			n++
		}
	}
	return n
}

// last is the last one that was taken of which is is true.
func (p *plain) last(is func(c api.Call, epoch int) bool) (taken, bool) {
	for _, t := range slices.Backward(p.row) {
		if is(t.call, t.epoch) {
			return t, true
		}
	}
	return taken{}, false
}

func (p *plain) epoch() int { return p.geo.First + p.count(closing) }

func (p *plain) time() int {
	t, _ := p.last(func(c api.Call, _ int) bool { return c.Kind == tick })
	return t.call.Time
}

// used: each write has a block, and each record.
func (p *plain) used() int { return p.count(write, closing, keep, hold, release, purge) }

// data: four of the blocks are for superblocks and keys.
func (p *plain) data() int { return p.geo.Blocks - 4 }

// room: one is kept for the closing.
func (p *plain) room() int { return max(0, p.data()-1-p.used()) }

func (p *plain) until(epoch int) int {
	t, _ := p.last(func(c api.Call, _ int) bool { return c.Kind == keep && c.Epoch == epoch })
	return t.call.Time
}

// held tells of which epoch a hold has the name, and whether there is such a one: what was said of the name last.
func (p *plain) held(name string) (int, bool) {
	t, ok := p.last(func(c api.Call, _ int) bool { return (c.Kind == hold || c.Kind == release) && c.Name == name })
	return t.call.Epoch, ok && t.call.Kind == hold
}

func (p *plain) holds() int { return p.count(hold) - p.count(release) }

func (p *plain) isHeld(epoch int) bool {
	for _, t := range p.row {
		if t.call.Kind == hold {
			if its, is := p.held(t.call.Name); is && its == epoch {
				return true
			}
		}
	}
	return false
}

func (p *plain) gone(epoch int) bool {
	_, ok := p.last(func(c api.Call, _ int) bool { return c.Kind == purge && c.Epoch == epoch })
	return ok
}

func (p *plain) block(epoch, lba int) (string, bool) {
	t, ok := p.last(func(c api.Call, its int) bool { return c.Kind == write && c.Lba == lba && its == epoch })
	return t.call.Data, ok
}

// places tells how many have a version of one of these epochs.
func (p *plain) places(first, last int) int {
	n := 0
	for lba := range p.geo.Lbas {
		if _, ok := p.last(func(c api.Call, its int) bool { return c.Kind == write && c.Lba == lba && within(its, first, last) }); ok {
			n++
		}
	}
	return n
}

// records are what was sealed, one behind the other: each as it was asked when it was.
func (p *plain) records() []api.Record {
	var l []api.Record
	for i, t := range p.row {
		ahead := &plain{true, p.geo, p.row[:i]}
		r := api.Record{Epoch: t.epoch, Time: t.time}
		switch t.call.Kind {
		case closing:
			r.Kind, r.Count, r.Root = recClose, ahead.places(t.epoch, t.epoch), strings.Repeat("\x00", 32)
		case keep:
			r.Kind, r.Target, r.Until = recRetain, t.call.Epoch, t.call.Time
		case hold:
			r.Kind, r.Target, r.Name = recHold, t.call.Epoch, t.call.Name
		case release:
			r.Kind, r.Name = recRelease, t.call.Name
		case purge:
			r.Kind, r.Target, r.Until = recPurge, t.call.Epoch, ahead.until(t.call.Epoch)
		default:
			continue
		}
		l = append(l, r)
	}
	return l
}

func (p *plain) stat() api.Stat {
	records := p.count(closing, keep, hold, release, purge)
	return api.Stat{Epoch: p.epoch(), Clock: p.time(), Free: p.room(), Records: records, Places: p.places(0, lastEpoch), Holds: p.holds()}
}

// newest is what a place has as of an epoch.
func (p *plain) newest(lba, epoch int) (taken, bool) {
	return p.last(func(c api.Call, its int) bool { return c.Kind == write && c.Lba == lba && its <= epoch })
}

// why goes through P24.2's table, column by column: the first that holds is told.
func (p *plain) why(c api.Call) api.Errno {
	if !p.made {
		return api.ErrNil
	}
	if !within(c.Kind, write, tick) {
		return api.ErrArg
	}
	of := func(kinds ...int) bool { return slices.Contains(kinds, c.Kind) }
	as := c.Epoch
	if c.Kind == read {
		as = p.epoch()
	}
	newest, has := p.newest(c.Lba, as)
	_, isHold := p.held(c.Name)
	for _, x := range []struct {
		holds bool
		why   api.Errno
	}{
		{of(write, read, readAt) && !within(c.Lba, 0, p.geo.Lbas-1), api.ErrRange},
		{of(write) && len(c.Data) > mostData, api.ErrArg},
		{of(hold, release) && !nameForm.MatchString(c.Name), api.ErrArg},
		{of(readAt, keep, hold, purge) && !within(c.Epoch, p.geo.First, p.epoch()), api.ErrNone},
		{of(read, readAt) && !has, api.ErrNone},
		{of(read, readAt) && p.gone(newest.epoch), api.ErrPurged},
		{of(closing) && p.epoch() == lastEpoch, api.ErrLimit},
		{of(closing) && p.used() == p.data(), api.ErrLimit},
		{of(keep, hold, purge) && c.Epoch == p.epoch(), api.ErrOpen},
		{of(keep, tick) && !within(c.Time, 0, lastTime), api.ErrArg},
		{of(release) && !isHold, api.ErrNone},
		{of(keep, hold, purge) && p.gone(c.Epoch), api.ErrPurged},
		{of(keep) && c.Time < p.until(c.Epoch), api.ErrLess},
		{of(hold) && isHold, api.ErrTwice},
		{of(hold) && p.holds() == mostHolds, api.ErrFull},
		{of(purge) && p.time() < p.until(c.Epoch), api.ErrEarly},
		{of(purge) && p.isHeld(c.Epoch), api.ErrHeld},
		{of(write, keep, hold, release, purge) && p.room() == 0, api.ErrFull},
		{of(tick) && c.Time < p.time(), api.ErrBack},
	} {
		if x.holds {
			return x.why
		}
	}
	return api.OK
}

// do answers a call, and takes it, if it may be taken.
func (p *plain) do(c api.Call) api.Answer {
	if e := p.why(c); e != api.OK {
		return api.Answer{Err: e}
	}
	switch c.Kind {
	case stat:
		return api.Answer{Stat: p.stat()}
	case read:
		t, _ := p.newest(c.Lba, lastEpoch)
		return api.Answer{Data: t.call.Data}
	case readAt:
		t, _ := p.newest(c.Lba, c.Epoch)
		return api.Answer{Data: t.call.Data}
	case sync:
		return api.Answer{}
	}
	p.row = append(p.row, taken{c, p.epoch(), p.time()})
	return api.Answer{}
}
