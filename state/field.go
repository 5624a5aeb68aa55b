package state

import "calamus/api"

// How many registers and marks there are at most where a state is read.
const (
	maxRegs  = 40
	maxMarks = 26
)

// work is what is done with each field, by what the field is.
type work struct {
	num  func(n *int)
	text func(t *string)
	flag func(b *bool)
	many func(have, most int) int // tells how many things a list shall have, which has so many
	tree func(t *api.Tree)
}

// fields does the work with all that a state has, in the order in which it is written. A list that has as many things as it shall have stays the one that it is.
func fields(s *api.State, w work) {
	w.text(&s.Text)
	for _, n := range []*int{&s.At, &s.Want, &s.Mode, &s.Anchor} {
		w.num(n)
	}
	w.text(&s.Keys)
	w.text(&s.Cmd)
	w.flag(&s.Long)
	for _, t := range []*string{&s.Line, &s.Dot, &s.Pattern} {
		w.text(t)
	}
	w.flag(&s.Back)
	w.num(&s.Find.Kind)
	for _, t := range []*string{&s.Find.Rune, &s.Name, &s.Half} {
		w.text(t)
	}
	status := int(s.Status)
	w.num(&status)
	s.Status = api.Errno(status)
	for _, n := range []*int{&s.In.From, &s.In.Count, &s.In.Before} {
		w.num(n)
	}
	w.text(&s.In.Base)
	s.Regs = sized(s.Regs, w.many(len(s.Regs), maxRegs))
	for i := range s.Regs {
		w.num(&s.Regs[i].Name)
		w.flag(&s.Regs[i].Lines)
		w.text(&s.Regs[i].Text)
	}
	s.Marks = sized(s.Marks, w.many(len(s.Marks), maxMarks))
	for i := range s.Marks {
		w.num(&s.Marks[i].Name)
		w.num(&s.Marks[i].At)
	}
	w.tree(&s.Tree)
}

// sized tells a list of n things: l itself, if it has so many, else one of zero values.
func sized[T any](l []T, n int) []T {
	if len(l) == n {
		return l
	}
	return make([]T, n)
}
