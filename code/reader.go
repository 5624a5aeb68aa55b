package code

import (
	"strings"

	"calamus/api"
)

// Reader reads numbers, texts and lists, one behind the other, till one can't be read.
type Reader struct {
	// self is the reader itself: a zero Reader, and a copy of one, were not given by NewReader, and show it here.
	self *Reader
	take func(n int) (string, bool)
	left int
	err  api.Errno
}

// NewReader gives a reader of s.
func NewReader(s string) *Reader {
	r := &Reader{}
	r.begin(s)
	return r
}

// begin makes a reader one that stands at the first byte of s. Its take tells the next n bytes, and goes behind them, if as many are left.
func (r *Reader) begin(s string) {
	*r = Reader{self: r, left: len(s)}
	r.take = func(n int) (string, bool) {
		if n > r.left {
			return "", false
		}
		at := len(s) - r.left
		r.left -= n
		return s[at : at+n], true
	}
}

// settle makes a reader that NewReader did not give one of no bytes.
func (r *Reader) settle() {
	if r.self != r {
		r.begin("")
	}
}

// fail keeps the first error. No bytes are left behind one, so whatever is read then fails too.
func (r *Reader) fail(e api.Errno) {
	if r.err != api.OK {
		e = r.err
	}
	r.begin("")
	r.err = e
}

// Num reads a number.
func (r *Reader) Num() int {
	if r == nil {
		return 0
	}
	r.settle()
	b, ok := r.take(size)
	if !ok {
		r.fail(api.ErrEnd)
		return 0
	}
	n, ok := number(b)
	if !ok {
		r.fail(api.ErrRange)
		return 0
	}
	return n
}

// length reads how much there is of a thing that has at most most; false behind an error.
func (r *Reader) length(most int) (int, bool) {
	n := r.Num()
	if r.Err() != api.OK {
		return 0, false
	}
	if n > most {
		r.fail(api.ErrRange)
		return 0, false
	}
	return n, true
}

// Text reads a text of at most most bytes.
func (r *Reader) Text(most int) string {
	n, ok := r.length(most)
	if !ok {
		return ""
	}
	s, ok := r.take(n)
	if !ok {
		r.fail(api.ErrEnd)
		return ""
	}
	// A text that is kept shall not keep all of the bytes it was read from.
	return strings.Clone(s)
}

// Nums reads a list of at most most numbers.
func (r *Reader) Nums(most int) []int {
	n, ok := r.length(most)
	if !ok {
		return nil
	}
	// The bytes may tell of many more numbers than there are: no more room is made than for those that can be.
	l := make([]int, 0, min(n, r.left/size))
	for range n {
		k := r.Num()
		if r.err != api.OK {
			return nil
		}
		l = append(l, k)
	}
	return l
}

// Left tells how many bytes were not read; none behind an error.
func (r *Reader) Left() int {
	if r == nil {
		return 0
	}
	r.settle()
	return r.left
}

// Err tells the first error, OK if there is none; that of no reader is ErrEnd.
func (r *Reader) Err() api.Errno {
	if r == nil {
		return api.ErrEnd
	}
	r.settle()
	return r.err
}
