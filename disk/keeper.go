package disk

import (
	"slices"

	"halyard/api"
	"halyard/batch"
	"halyard/parts"
)

// keeper keeps a disk that is right, and is its own.
type keeper struct {
	api.Disk
	batches []api.Batch
	ends    []int // Where Synced may be in the last segment: its beginning, and the end of each batch.
}

// kept: a disk and who keeps it, or what is wrong with it.
func kept(d api.Disk) (*keeper, api.Errno) {
	if tooGreat(d) {
		return nil, api.ErrMany
	}
	k := &keeper{Disk: api.Disk{Segments: parts.CloneList(d.Segments), Synced: d.Synced}, ends: []int{0}}
	for i := range k.Segments {
		if no := k.read(i); no != api.OK {
			return nil, no
		}
	}
	if !slices.Contains(k.ends, k.Synced) {
		return nil, api.ErrRange
	}
	return k, api.OK
}

func tooGreat(d api.Disk) bool {
	return len(d.Segments) > api.MaxSegments ||
		slices.ContainsFunc(d.Segments, func(s string) bool { return len(s) > api.MaxSegment })
}

// read the batches of a segment.
func (k *keeper) read(i int) api.Errno {
	segment, end := k.Segments[i], 0
	k.ends = []int{end}
	for end < len(segment) {
		b, n, no := batch.Decode(segment[end:])
		if no == api.ErrNone {
			return k.tornAt(i)
		}
		if no != api.OK {
			return no
		}
		end += n
		k.batches, k.ends = append(k.batches, b), append(k.ends, end)
	}
	return api.OK
}

// tornAt: what is wrong, if a segment ends within a batch.
func (k *keeper) tornAt(i int) api.Errno {
	if i < len(k.Segments)-1 {
		return api.ErrState
	}
	return api.OK
}

// last segment, or nothing, if there is none.
func (k *keeper) last() string {
	if len(k.Segments) == 0 {
		return ""
	}
	return k.Segments[len(k.Segments)-1]
}

// setLast segment, if there is one.
func (k *keeper) setLast(bytes string) {
	if len(k.Segments) > 0 {
		k.Segments[len(k.Segments)-1] = bytes
	}
}

// whole: how many bytes of the last segment are those of whole batches.
func (k *keeper) whole() int {
	return k.ends[len(k.ends)-1]
}

func (k *keeper) torn() bool {
	return k.whole() < len(k.last())
}

// cut the last segment behind its first n bytes.
func (k *keeper) cut(n int) {
	k.setLast(k.last()[:n])
}

func (k *keeper) sync() {
	k.Synced = len(k.last())
}

// put the bytes of a batch behind all.
func (k *keeper) put(bytes string) api.Errno {
	switch {
	case k.hasRoom(len(bytes)):
		k.setLast(k.last() + bytes)
	case len(k.Segments) == api.MaxSegments:
		return api.ErrMany
	default:
		k.Segments, k.Synced = append(k.Segments, bytes), 0
	}
	return api.OK
}

// hasRoom: whether n bytes more go into the last segment.
func (k *keeper) hasRoom(n int) bool {
	return len(k.Segments) > 0 && len(k.last())+n <= api.MaxSegment
}
