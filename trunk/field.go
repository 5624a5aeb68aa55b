package trunk

import (
	"calamus/api"
	"calamus/code"
)

// field is one thing that a node has: how it is written, and how it is read.
type field struct {
	write func(n api.Node) string
	read  func(r *code.Reader, n *api.Node)
}

// fields tells what a node has, in the order in which it is written.
func fields() []field {
	return []field{
		number(1, func(n *api.Node) *int { return &n.Up }),
		number(1, func(n *api.Node) *int { return &n.Next }),
		number(0, func(n *api.Node) *int { return &n.Before }),
		number(0, func(n *api.Node) *int { return &n.After }),
		number(0, func(n *api.Node) *int { return &n.Change.At }),
		text(func(n *api.Node) *string { return &n.Change.Old }),
		text(func(n *api.Node) *string { return &n.Change.New }),
	}
}

// number is a field that is a number, and is written with more added to it: where -1 may stand, which can't be written as it is, 1.
func number(more int, of func(n *api.Node) *int) field {
	return field{
		write: func(n api.Node) string { return code.Num(*of(&n) + more) },
		read:  func(r *code.Reader, n *api.Node) { *of(n) = r.Num() - more },
	}
}

// text is a field that is a text.
func text(of func(n *api.Node) *string) field {
	return field{
		write: func(n api.Node) string { return code.Text(*of(&n)) },
		read:  func(r *code.Reader, n *api.Node) { *of(n) = r.Text(api.MaxText) },
	}
}
