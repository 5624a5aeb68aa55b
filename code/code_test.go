package code_test

import (
	"math"
	"slices"
	"strings"
	"testing"

	"calamus/api"
	"calamus/code"
)

// numbers are those at which a byte of a number turns, with their neighbours.
func numbers() []int {
	l := []int{0, 1, 2, 127, 258, 0x01020304, 0x7f7f7f7f, api.MaxNum - 1, api.MaxNum}
	for bit := 7; bit < 31; bit++ {
		l = append(l, 1<<bit-1, 1<<bit, 1<<bit+1)
	}
	return l
}

// noNumbers are no numbers; what is above MaxNum might look like one by its lowest four bytes.
func noNumbers() []int {
	return []int{-1, -2, -256, api.MaxNum + 1, api.MaxNum + 2, 1<<32 - 1, 1 << 32, 1<<32 + 1, math.MinInt32, math.MinInt, math.MinInt + 1, math.MaxInt}
}

// P1.1: the bytes of numbers.
func TestNum(t *testing.T) {
	for _, x := range []struct {
		n int
		s string
	}{
		{0, "\x00\x00\x00\x00"},
		{1, "\x01\x00\x00\x00"},
		{255, "\xff\x00\x00\x00"},
		{256, "\x00\x01\x00\x00"},
		{258, "\x02\x01\x00\x00"},
		{65536, "\x00\x00\x01\x00"},
		{1 << 24, "\x00\x00\x00\x01"},
		{0x01020304, "\x04\x03\x02\x01"},
		{api.MaxNum, "\xff\xff\xff\x7f"},
	} {
		if s := code.Num(x.n); s != x.s {
			t.Errorf("Num(%d): %q", x.n, s)
		}
	}
	for _, n := range noNumbers() {
		if s := code.Num(n); s != "" {
			t.Errorf("Num(%d): %q", n, s)
		}
	}
}

// P1.1: the bytes of texts, valid or not.
func TestText(t *testing.T) {
	for _, x := range []struct{ s, want string }{
		{"", "\x00\x00\x00\x00"},
		{"ab", "\x02\x00\x00\x00ab"},
		{"\x00", "\x01\x00\x00\x00\x00"},
		{"é\n", "\x03\x00\x00\x00\xc3\xa9\n"},
		{"\xff\xfe", "\x02\x00\x00\x00\xff\xfe"},
		{strings.Repeat("x", 258), "\x02\x01\x00\x00" + strings.Repeat("x", 258)},
		{strings.Repeat("\x80", 70000), "\x70\x11\x01\x00" + strings.Repeat("\x80", 70000)},
	} {
		if s := code.Text(x.s); s != x.want {
			t.Errorf("Text(%.20q): %.30q", x.s, s)
		}
	}
}

// P1.1: the bytes of lists; "", if a number anywhere in them is none.
func TestNums(t *testing.T) {
	for _, x := range []struct {
		l    []int
		want string
	}{
		{nil, "\x00\x00\x00\x00"},
		{[]int{}, "\x00\x00\x00\x00"},
		{[]int{0}, "\x01\x00\x00\x00\x00\x00\x00\x00"},
		{[]int{1, 256}, "\x02\x00\x00\x00\x01\x00\x00\x00\x00\x01\x00\x00"},
		{[]int{api.MaxNum, 0, 258}, "\x03\x00\x00\x00\xff\xff\xff\x7f\x00\x00\x00\x00\x02\x01\x00\x00"},
	} {
		if s := code.Nums(x.l...); s != x.want {
			t.Errorf("Nums(%v): %q", x.l, s)
		}
	}
	if s := code.Nums(make([]int, 300)...); s != "\x2c\x01\x00\x00"+strings.Repeat("\x00", 1200) {
		t.Errorf("%d bytes", len(s))
	}
	for _, n := range noNumbers() {
		for at := range 4 {
			l := []int{1, 2, 3, 4}
			l[at] = n
			if s := code.Nums(l...); s != "" {
				t.Errorf("Nums(%v): %q", l, s)
			}
		}
	}
}

// P1.1: what is handed in, and what stands behind its end, stays as it was.
func TestNumsLeavesItsList(t *testing.T) {
	all := []int{1, 2, 3, 4}
	code.Nums(all[:2]...)
	code.Nums(append(all[:1:1], -1)...)
	if !slices.Equal(all, []int{1, 2, 3, 4}) {
		t.Error(all)
	}
}
