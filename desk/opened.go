package desk

import (
	"slices"

	"halyard/api"
	"halyard/change"
	"halyard/disk"
	"halyard/history"
	"halyard/schema"
)

// opened: what a disk holds that can be opened: the state behind all its batches, it without a torn end and Synced, and they.
type opened struct {
	api.State
	api.Disk
	batches []api.Batch
}

// open a disk, or tell why it can't be.
func open(types []api.Type, d api.Disk) (opened, api.Errno) {
	if no := schema.Check(types); no != api.OK {
		return opened{}, no
	}
	batches, whole, no := disk.Open(d)
	if no != api.OK {
		return opened{}, no
	}
	if anyTwice(batches) {
		return opened{}, api.ErrTwice
	}
	s, no := history.All(types, eventsOf(batches))
	if no != api.OK {
		return opened{}, no
	}
	return opened{State: s, Disk: whole, batches: batches}, api.OK
}

// at: the state behind the first n batches.
func (o opened) at(n int) (api.State, api.Errno) {
	if n < 0 || n > len(o.batches) {
		return api.State{}, api.ErrRange
	}
	return history.All(o.Types, eventsOf(o.batches[:n]))
}

// change of a number that is new: the disk with its batch.
func (o opened) change(number int, l []api.Select) (api.Disk, api.Errno) {
	_, events, no := change.Do(o.State, l)
	if no != api.OK {
		return api.Disk{}, no
	}
	// A disk may have come with more than changes make.
	if len(o.batches) >= api.MaxBatches {
		return api.Disk{}, api.ErrMany
	}
	d, no := disk.Append(o.Disk, api.Batch{Number: number, Events: events})
	if no != api.OK {
		return api.Disk{}, no
	}
	return disk.Sync(d)
}

// anyTwice: whether two batches have one number.
func anyTwice(l []api.Batch) bool {
	for i, b := range l {
		if hasNumber(l[:i], b.Number) {
			return true
		}
	}
	return false
}

// hasNumber: whether a batch has a number.
func hasNumber(l []api.Batch, number int) bool {
	return slices.ContainsFunc(l, func(b api.Batch) bool { return b.Number == number })
}

// eventsOf batches, in order.
func eventsOf(l []api.Batch) []api.Event {
	var events []api.Event
	for _, b := range l {
		events = append(events, b.Events...)
	}
	return events
}
