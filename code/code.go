// Package code is layer 1: numbers, texts and lists of numbers as bytes, and a reader that leads back. See shared/doc/01-code.md.
package code

import (
	"strings"

	"calamus/api"
)

// size is how many bytes a number has.
const size = 4

// Num tells a number's bytes, the lowest first; "" of what is none.
func Num(n int) string {
	if n < 0 || n > api.MaxNum {
		return ""
	}
	return string([]byte{byte(n), byte(n >> 8), byte(n >> 16), byte(n >> 24)})
}

// Text tells a text's bytes: how many it has, and the text.
func Text(s string) string {
	head := Num(len(s))
	if head == "" {
		return ""
	}
	return head + s
}

// Nums tells a list's bytes: how many numbers it has, and each; "" if one is none.
func Nums(l ...int) string {
	var b strings.Builder
	head := Num(len(l))
	if head == "" {
		return ""
	}
	b.WriteString(head)
	for _, n := range l {
		one := Num(n)
		if one == "" {
			return ""
		}
		b.WriteString(one)
	}
	return b.String()
}

// number tells the number whose bytes these four are; false, if it is above MaxNum.
func number(b string) (int, bool) {
	n := uint32(b[0]) | uint32(b[1])<<8 | uint32(b[2])<<16 | uint32(b[3])<<24
	if n > api.MaxNum {
		return 0, false
	}
	return int(n), true
}
