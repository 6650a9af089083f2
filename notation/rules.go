package notation

import "examiner/api"

// A rule tells that something is wrong, and with which error.
type rule struct {
	e      api.Errno
	broken func() bool
}

// firstBroken returns the error of the first rule that is broken; those behind it are not asked, because they rely on it.
func firstBroken(rules ...rule) api.Errno {
	for _, r := range rules {
		if r.broken() {
			return r.e
		}
	}
	return api.OK
}

// A sizer counts what is within something. It stops as soon as that is too much, because slices may contain themselves.
type sizer struct{ left int }

func (z *sizer) hasRoom(depth int) bool {
	z.left--
	return z.left >= 0 && depth > 0
}

// hasRoomForType returns whether a type fits into what is left, and is at most so deep.
func (z *sizer) hasRoomForType(t api.Type, depth int) bool {
	if !z.hasRoom(depth) {
		return false
	}
	for _, f := range t.Fields {
		if !z.hasRoomForType(f.Type, depth-1) || !z.hasRoomForValues(f.Default, depth-1) {
			return false
		}
	}
	for _, of := range t.Of {
		if !z.hasRoomForType(of, depth-1) {
			return false
		}
	}
	return true
}

func (z *sizer) hasRoomForValue(v api.Value, depth int) bool {
	return z.hasRoom(depth) && z.hasRoomForValues(v.Items, depth-1)
}

func (z *sizer) hasRoomForValues(l []api.Value, depth int) bool {
	for _, v := range l {
		if !z.hasRoomForValue(v, depth) {
			return false
		}
	}
	return true
}

func isInteger(n int) bool { return n >= -api.MaxInteger && n <= api.MaxInteger }

// isRepeated returns whether an item stands before its index, too.
func isRepeated[T comparable](items []T, index int) bool {
	for _, item := range items[:index] {
		if item == items[index] {
			return true
		}
	}
	return false
}
