package values

import (
	"slices"

	"examiner/api"
	"examiner/notation"
)

// A follower follows references in a schema. It keeps what it knows of them, because notation.Resolved looks at the whole schema each time.
type follower struct {
	schema api.Schema
	known  map[reference]followed
}

// A reference is what matters of a TypeRef: its name, and how many tags stand before those of the type, of which there may be too many.
type reference struct {
	name string
	tags int
}

type followed struct {
	typ api.Type
	e   api.Errno
}

func followerIn(s api.Schema) *follower {
	return &follower{s, make(map[reference]followed)}
}

// followed returns what a type is when references are followed.
func (f *follower) followed(t api.Type) (api.Type, api.Errno) {
	if t.Kind != api.TypeRef {
		return t, api.OK
	}
	ref := reference{t.Name, len(t.Tags)}
	k, isKnown := f.known[ref]
	if !isKnown {
		k.typ, k.e = notation.Resolved(f.schema, t)
		f.known[ref] = k
	}
	if k.e != api.OK {
		return api.Type{}, k.e
	}
	k.typ.Tags = slices.Concat(t.Tags, k.typ.Tags[len(t.Tags):])
	return k.typ, api.OK
}
