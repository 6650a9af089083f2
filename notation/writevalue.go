package notation

import (
	"slices"

	"examiner/api"
)

// The names of the fields as which a real is written.
const (
	mantissaName = "mantissa"
	baseName     = "base"
	exponentName = "exponent"
	realBase     = 2
)

// isRealNames returns whether a record with these fields would be read as a real.
func isRealNames(names []string) bool {
	return slices.Equal(names, []string{mantissaName, baseName, exponentName})
}

// value writes a plain value.
func (w *writer) value(v api.Value) {
	switch v.Kind {
	case api.ValueNull:
		w.fixed("NULL")
	case api.ValueBool:
		w.truth(v.N)
	case api.ValueInt:
		w.number(v.N)
	case api.ValueEnum:
		w.smallName(v.S)
	case api.ValueBits:
		w.bits(v.S)
	case api.ValueOctets:
		w.octets(v.S)
	case api.ValueChars:
		w.chars(v.S)
	case api.ValueOid:
		w.fixed("{")
		for _, item := range v.Items {
			w.number(item.N)
		}
		w.fixed("}")
	case api.ValueReal:
		w.real(v)
	case api.ValueRecord:
		w.record(v)
	case api.ValueList:
		w.fixed("{")
		writeList(w, ",", v.Items, w.value)
		w.fixed("}")
	case api.ValueUnion:
		w.smallName(v.Names[0])
		w.fixed(":")
		w.value(v.Items[0])
	case api.ValueOpen:
		w.capitalName(v.S) // none has no text
		w.fixed(":")
		w.value(v.Items[0])
	default:
		w.refuse()
	}
}

func (w *writer) truth(n int) {
	if n == 0 {
		w.fixed("FALSE")
	} else {
		w.fixed("TRUE")
	}
}

func (w *writer) real(v api.Value) {
	w.fixed("{")
	w.smallName(mantissaName)
	w.number(v.N)
	w.fixed(",")
	w.smallName(baseName)
	w.number(realBase)
	w.fixed(",")
	w.smallName(exponentName)
	w.number(v.E)
	w.fixed("}")
}

func (w *writer) record(v api.Value) {
	if len(v.Names) == 0 || isRealNames(v.Names) {
		w.refuse()
	}
	w.fixed("{")
	for i, name := range v.Names {
		if i > 0 {
			w.fixed(",")
		}
		w.smallName(name)
		w.value(v.Items[i])
	}
	w.fixed("}")
}
