package state

import (
	"strings"

	"calamus/api"
	"calamus/ex"
	"calamus/key"
	"calamus/line"
	"calamus/mark"
	"calamus/phrase"
	"calamus/reg"
	"calamus/seek"
	"calamus/trunk"
	"calamus/utf"
)

// redo is the key api.Redo.
const redo = string(rune(api.Redo))

// Right tells whether a state may be.
func Right(s api.State) bool {
	return plain(s.Text, api.MaxText) &&
		api.Normal <= s.Mode && s.Mode <= api.Reverse &&
		api.OK <= s.Status && s.Status <= api.ErrLoose &&
		placed(s) && begun(s) && typed(s) && sought(s) && entered(s) && kept(s) &&
		trunk.Check(s.Tree, ground(s)) == api.OK
}

// plain tells whether a text is valid, and of at most most bytes.
func plain(t string, most int) bool {
	return len(t) <= most && utf.Valid(t)
}

// ground tells the text at the tree's Cur: what is being put in is no change yet.
func ground(s api.State) string {
	if s.Mode == api.Insert {
		return s.In.Base
	}
	return s.Text
}

// placed tells whether At, Want and Anchor may be.
func placed(s api.State) bool {
	at, anchor := line.Normal(s.Text, s.At), s.Anchor == 0
	switch s.Mode {
	case api.Insert:
		at = utf.Place(s.Text, s.At)
	case api.Visual, api.Lines:
		anchor = line.Normal(s.Text, s.Anchor)
	}
	return at && anchor && 0 <= s.Want && s.Want <= api.MaxWant
}

// begun tells whether Keys and Half may be.
func begun(s api.State) bool {
	if !half(s.Half) || len(s.Keys) > api.MaxKeys {
		return false
	}
	switch s.Mode {
	case api.Normal:
		return more(s.Keys, false)
	case api.Visual, api.Lines:
		return more(s.Keys, true)
	case api.Insert:
		return s.Keys == "" || s.Keys == redo
	}
	return s.Keys == ""
}

// more tells whether keys begin a command, and are none.
func more(keys string, visual bool) bool {
	_, is := phrase.Parse(keys, visual)
	return is == phrase.More
}

// half tells whether a text is bytes that begin a rune and have not ended it, or none: others layer 3 takes no byte behind.
func half(t string) bool {
	_, _, e := utf.Feed(t, 0)
	return e != api.ErrArg
}

// typed tells whether Line, Cmd, Long and Dot may be.
func typed(s api.State) bool {
	switch s.Mode {
	case api.Command, api.Search, api.Reverse:
		if !signs(s.Line) {
			return false
		}
	default:
		if s.Line != "" {
			return false
		}
	}
	return keys(s.Cmd) && keys(s.Dot) && !(s.Long && s.Cmd != "")
}

// signs tells whether a text is signs, as many as a line of commands may have.
func signs(t string) bool {
	if len(t) > api.MaxLine {
		return false
	}
	l, e := key.Split(t)
	for _, k := range l {
		if !key.Sign(k) {
			return false
		}
	}
	return e == api.OK
}

// keys tells whether a text is keys, as many as a command may have.
func keys(t string) bool {
	if len(t) > api.MaxCmd {
		return false
	}
	_, e := key.Split(t)
	return e == api.OK
}

// sought tells whether Pattern, Find and Name may be.
func sought(s api.State) bool {
	return plain(s.Pattern, api.MaxLine) && !strings.Contains(s.Pattern, "\n") &&
		(s.Find == api.Find{} || seek.Right(s.Find)) &&
		(s.Name == "" || ex.Name(s.Name))
}

// entered tells whether In may be, and, where it is of use, whether the tree has room for the change that it becomes.
func entered(s api.State) bool {
	if s.Mode != api.Insert {
		return s.In == api.Entry{}
	}
	return s.In.From <= s.At && utf.Place(s.Text, s.In.From) &&
		0 <= s.In.Count && s.In.Count <= api.MaxCount &&
		plain(s.In.Base, api.MaxText) && utf.Place(s.In.Base, s.In.Before) &&
		len(s.Tree.Nodes) < api.MaxNodes
}

// kept tells whether Regs and Marks may be.
func kept(s api.State) bool {
	for _, m := range s.Marks {
		if m.At > len(ground(s)) {
			return false
		}
	}
	return reg.Right(s.Regs) && mark.Right(s.Marks)
}
