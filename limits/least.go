package limits

import (
	"iter"
	"slices"

	"examiner/api"
)

// A letter is a character of a type, and the clauses that it does not break.
type letter struct {
	character byte
	keeps     marks
}

// A stage of a string is the clauses that its beginning and its size satisfy, and how many characters are left.
type stage struct {
	met  marks
	left int
}

// A search finds the first string that a constraint permits.
type search struct {
	clauses
	letters  []letter // ascending
	finishes map[stage]bool
}

// leastString returns the shortest string that a type permits, of several the first one.
func leastString(t api.Type) (string, bool) {
	s := searchIn(t)
	for size := range api.MaxString + 1 {
		if l := s.candidates(size); len(l) > 0 {
			return slices.Min(l), true
		}
	}
	return "", false
}

func searchIn(t api.Type) search {
	s := search{clauses: clausesOf(t.Limits), finishes: map[stage]bool{}}
	for _, span := range alphabetOf(t) {
		for c := span.Low; c <= span.High; c++ {
			s.letters = append(s.letters, s.letterOf(c))
		}
	}
	return s
}

func (s search) letterOf(c int) letter {
	found := letter{character: byte(c)}
	for _, l := range s.list {
		if l.kind != api.LimitFrom || has(l.among, c) {
			found.keeps |= l.mark
		}
	}
	return found
}

// candidates returns permitted strings of a size, the first one among them, if there are some. Of the others only those are not permitted that are the string of a LimitText, so that few of them are looked at.
func (s search) candidates(size int) []string {
	var l []string
	for _, c := range s.list {
		if c.kind == api.LimitText && len(c.text) == size && s.permit(c.text) {
			l = append(l, c.text)
		}
	}
	for text := range s.others(size) {
		if s.permit(text) {
			return append(l, text)
		}
	}
	return l
}

// others yields the strings of a size that would be permitted if they were the string of no LimitText, ascending.
func (s search) others(size int) iter.Seq[string] {
	return func(yield func(string) bool) {
		s.extend(nil, stage{s.begin(size), size}, yield)
	}
}

// begin returns the clauses that a string of a size satisfies without its characters.
func (s search) begin(size int) marks {
	var m marks
	for _, l := range s.list {
		if l.kind == api.LimitFrom || l.kind == api.LimitSize && has(l.among, size) {
			m |= l.mark
		}
	}
	return m
}

// extend yields what becomes of a beginning, and returns whether more is wanted.
func (s search) extend(beginning []byte, at stage, yield func(string) bool) bool {
	if !s.canFinish(at) {
		return true
	}
	if at.left == 0 {
		return yield(string(beginning))
	}
	for _, l := range s.letters {
		if !s.extend(append(beginning, l.character), at.behind(l), yield) {
			return false
		}
	}
	return true
}

func (at stage) behind(l letter) stage { return stage{at.met & l.keeps, at.left - 1} }

// canFinish returns whether a stage leads to a string that would be permitted.
func (s search) canFinish(at stage) bool {
	if at.left == 0 {
		return s.hold(at.met)
	}
	can, known := s.finishes[at]
	if known {
		return can
	}
	for _, l := range s.letters {
		if s.canFinish(at.behind(l)) {
			can = true
			break
		}
	}
	s.finishes[at] = can
	return can
}
