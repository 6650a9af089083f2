package tags

import (
	"slices"

	"examiner/api"
	"examiner/notation"
)

// componentsName is the name that COMPONENTS OF has as a field.
const componentsName = "components"

// isComponents returns whether a field is COMPONENTS OF.
func isComponents(f api.Field) bool {
	return f.Name == componentsName && f.Type.Kind == api.TypeRef && len(f.Type.Tags) == 0 && f.Presence == api.FieldMust
}

// putComponents puts COMPONENTS OF into a record or a set, until there is none.
func putComponents(s api.Schema, t *api.Type) api.Errno {
	for put := 1; ; put++ {
		at := slices.IndexFunc(t.Fields, isComponents)
		if at < 0 {
			return api.OK
		}
		from, e := notation.Resolved(s, t.Fields[at].Type)
		switch {
		case e != api.OK:
			return e
		case from.Kind != t.Kind:
			return api.ErrType
		case put > api.MaxTypes:
			return api.ErrLoop
		case len(t.Fields)-1+from.Root > api.MaxFields:
			return api.ErrLarge
		}
		replace(t, at, from.Fields[:from.Root])
	}
}

// replace puts fields in the place of one.
func replace(t *api.Type, at int, fields []api.Field) {
	for i := range fields {
		fields[i].Group = t.Fields[at].Group
	}
	t.Fields = slices.Replace(t.Fields, at, at+1, fields...)
	if at < t.Root {
		t.Root += len(fields) - 1
	}
}
