package crc_test

import (
	"hash/crc32"
	"math"
	"slices"
	"strings"
	"testing"

	"calamus/api"
	"calamus/crc"
)

// full is the greatest sum.
const full = 1<<32 - 1

// steps does the chapter's step n times at a register.
func steps(register, n int) int {
	for range n {
		odd := register%2 == 1
		register /= 2
		if odd {
			register ^= 0xEDB88320
		}
	}
	return register
}

// worked is the sum of s, worked out as the chapter's words say it, bit by bit.
func worked(s string) int {
	register := full
	for _, b := range []byte(s) {
		register = steps(register^int(b), 8)
	}
	return register ^ full
}

// noise is n bytes of which no rule is easily seen, the same at each call.
func noise(n, seed int) []byte {
	b := make([]byte, n)
	x := uint64(seed)*2 + 1
	for i := range b {
		x = x*6364136223846793005 + 1442695040888963407
		b[i] = byte(x >> 56)
	}
	return b
}

// texts are bytes of all kinds and of many lengths.
func texts() []string {
	all := make([]byte, 256)
	for n := range all {
		all[n] = byte(n)
	}
	l := []string{"", "\x00", "\xff", "a", "ab", "abc", "é€😀\n", "123456789", "\x00\x00\x00\x00", "\xff\xff\xff\xff", "\xff\xff\xff\xff\x00", string(all), strings.Repeat("\x00", 5000), strings.Repeat("xyz", 5000)}
	for n := range 70 {
		l = append(l, string(noise(n, n)))
	}
	return append(l, string(noise(70000, 7)))
}

// P2.1: sums of one piece, told by known numbers, by the chapter's words, and by the library.
func TestSum(t *testing.T) {
	for _, x := range []struct {
		s string
		n int
	}{
		{"", 0},
		{"\x00", 0xD202EF8D},
		{"\xff", 0xFF000000},
		{"a", 0xE8B7BE43},
		{"abc", 0x352441C2},
		{"123456789", 0xCBF43926},
		{"\x00\x00\x00\x00", 0x2144DF1C},
		{"\xff\xff\xff\xff", 0xFFFFFFFF},
		{"The quick brown fox jumps over the lazy dog", 0x414FA339},
	} {
		if n := crc.Sum(x.s); n != x.n {
			t.Errorf("%q: %#x", x.s, n)
		}
	}
	for n := range 256 {
		for _, s := range []string{string([]byte{byte(n)}), string([]byte{byte(n), 'x'}), string([]byte{'x', byte(n)})} {
			if got := crc.Sum(s); got != worked(s) {
				t.Errorf("%q: %#x, not %#x", s, got, worked(s))
			}
		}
	}
	for _, s := range texts() {
		want := worked(s)
		if want != int(crc32.ChecksumIEEE([]byte(s))) {
			t.Fatalf("%.20q: the test is wrong", s)
		}
		if n := crc.Sum(s); n != want {
			t.Errorf("%.20q: %#x, not %#x", s, n, want)
		}
	}
}

// P2.1: no pieces, and pieces of no bytes.
func TestSumOfNothing(t *testing.T) {
	for _, l := range [][]string{nil, {}, {""}, {"", "", ""}} {
		if n := crc.Sum(l...); n != 0 {
			t.Errorf("%q: %#x", l, n)
		}
	}
	for _, l := range [][]string{{"", "abc"}, {"abc", ""}, {"", "a", "", "", "bc", ""}} {
		if n := crc.Sum(l...); n != 0x352441C2 {
			t.Errorf("%q: %#x", l, n)
		}
	}
	if a, b := crc.Sum("a", "b"), crc.Sum("b", "a"); a == b || a != crc.Sum("ab") {
		t.Errorf("%#x, %#x", a, b)
	}
}

// P2.1: more bytes behind any bytes.
func TestMore(t *testing.T) {
	if n := crc.More(crc.Sum("12345"), "6789"); n != 0xCBF43926 {
		t.Errorf("%#x", n)
	}
	for _, ahead := range texts() {
		sum := worked(ahead)
		for _, s := range []string{"", "\x00", "\xff", "ab", "\xff\xff\xff\xff", string(noise(300, 3))} {
			if n := crc.More(sum, s); n != worked(ahead+s) {
				t.Errorf("%.20q, %.20q: %#x, not %#x", ahead, s, n, worked(ahead+s))
			}
		}
	}
}

// P2.1: all numbers of 32 bits are sums: nothing behind leaves each as it is, and bytes behind go on from it.
func TestMoreOfAnySum(t *testing.T) {
	l := []int{0, 1, 255, 256, api.MaxNum, api.MaxNum + 1, full - 1, full}
	for bit := range 32 {
		l = append(l, 1<<bit, full-1<<bit)
	}
	for _, sum := range l {
		if n := crc.More(sum, ""); n != sum {
			t.Errorf("%#x: %#x", sum, n)
		}
		if n, want := crc.More(sum, "x\x80"), int(crc32.Update(uint32(sum), crc32.IEEETable, []byte("x\x80"))); n != want {
			t.Errorf("%#x: %#x, not %#x", sum, n, want)
		}
	}
}

// P2.1: what is no sum has none behind it, also where its lowest bits are those of one.
func TestMoreOfNoSum(t *testing.T) {
	sum := crc.Sum("12345")
	for _, n := range []int{-1, -2, -256, -sum, sum - 1<<32, -1 << 32, -1<<32 - 1, math.MinInt32, math.MinInt, math.MinInt + 1, full + 1, full + 2, sum + 1<<32, 1 << 33, 1<<40 + 1, math.MaxInt, math.MaxInt - 1} {
		for _, s := range []string{"", "6789", "\x00"} {
			if got := crc.More(n, s); got != 0 {
				t.Errorf("%d, %q: %#x", n, s, got)
			}
		}
	}
}

// P2.2: all 256 numbers, by the chapter's steps, and by the library.
func TestTable(t *testing.T) {
	l := crc.Table()
	if len(l) != 256 {
		t.Fatal(len(l))
	}
	for n, got := range l {
		if got != steps(n, 8) || got != int(crc32.IEEETable[n]) {
			t.Errorf("%d: %#x", n, got)
		}
	}
	for n, want := range map[int]int{0: 0, 1: 0x77073096, 2: 0xEE0E612C, 128: 0xEDB88320, 255: 0x2D02EF8D} {
		if l[n] != want {
			t.Errorf("%d: %#x", n, l[n])
		}
	}
}

// P2.2: a table is the one's who asked: what he does with it is nothing to the next one, nor to sums.
func TestTableIsNew(t *testing.T) {
	l := crc.Table()
	want := slices.Clone(l)
	clear(l)
	if got := crc.Table(); !slices.Equal(got, want) {
		t.Error(got[:4])
	}
	if n := crc.Sum("123456789"); n != 0xCBF43926 {
		t.Errorf("%#x", n)
	}
}

// P2.3: the bytes of the sum stand behind, the lowest first.
func TestSeal(t *testing.T) {
	for _, x := range []struct{ s, want string }{
		{"", "\x00\x00\x00\x00"},
		{"a", "a\x43\xbe\xb7\xe8"},
		{"abc", "abc\xc2\x41\x24\x35"},
		{"123456789", "123456789\x26\x39\xf4\xcb"},
		{"\xff\xff\xff\xff", "\xff\xff\xff\xff\xff\xff\xff\xff"},
		{"\xff", "\xff\x00\x00\x00\xff"},
	} {
		if s := crc.Seal(x.s); s != x.want {
			t.Errorf("%q: %q", x.s, s)
		}
	}
}

// P2.3: fewer than four bytes, whatever they are.
func TestOpenOfFewBytes(t *testing.T) {
	for _, s := range []string{"", "\x00", "\x00\x00", "\x00\x00\x00", "a", "ab", "abc", "\xff\xff\xff"} {
		if x, e := crc.Open(s); x != "" || e != api.ErrEnd {
			t.Errorf("%q: %q, error %d", s, x, e)
		}
	}
}

// P2.3: four bytes are the sum of nothing or none; with any byte of a sum another, or the bytes in another order, it is no sum.
func TestOpenOfNoSum(t *testing.T) {
	if x, e := crc.Open("\x00\x00\x00\x00"); x != "" || e != api.OK {
		t.Errorf("%q, error %d", x, e)
	}
	for _, s := range []string{"\x01\x00\x00\x00", "\x00\x00\x00\x01", "\x00\x00\x00\x80", "\xff\xff\xff\xff", "abcd", "abc\x35\x24\x41\xc2", "abd\xc2\x41\x24\x35", "abc\xc2\x41\x24\x35\x00", "\x00abc\xc2\x41\x24\x35", "bc\xc2\x41\x24\x35", "abc\xc2\x41\x24"} {
		if x, e := crc.Open(s); x != "" || e != api.ErrSum {
			t.Errorf("%q: %q, error %d", s, x, e)
		}
	}
	sealed := crc.Seal("abc")
	for at := range len(sealed) {
		for n := 1; n < 256; n++ {
			b := []byte(sealed)
			b[at] ^= byte(n)
			if x, e := crc.Open(string(b)); x != "" || e != api.ErrSum {
				t.Errorf("byte %d, %d: %q, error %d", at, n, x, e)
			}
		}
	}
}

// P2.4: what is sealed is opened, also what was sealed already.
func TestSealedIsOpened(t *testing.T) {
	for _, s := range texts() {
		once := crc.Seal(s)
		if len(once) != len(s)+4 {
			t.Fatalf("%.20q: %d bytes", s, len(once))
		}
		for _, x := range []string{s, once} {
			if got, e := crc.Open(crc.Seal(x)); got != x || e != api.OK {
				t.Errorf("%.20q: %.20q, error %d", x, got, e)
			}
		}
	}
}

// patterns are bits to turn within 32: single ones, neighbours, both ends, all, and many that follow no rule.
func patterns() []uint32 {
	l := []uint32{0xFFFFFFFF, 0x80000001, 0xEDB88320, 0x04C11DB7, 0xDB710641, 0x7FFFFFFF, 0xFFFFFFFE, 0xAAAAAAAA, 0x55555555}
	for bit := range 32 {
		l = append(l, 1<<bit, 3<<bit, 1|1<<bit, 1<<31|1<<bit)
	}
	b := noise(400, 11)
	for i := 0; i < len(b); i += 4 {
		l = append(l, uint32(b[i])|uint32(b[i+1])<<8|uint32(b[i+2])<<16|uint32(b[i+3])<<24)
	}
	return slices.DeleteFunc(l, func(p uint32) bool { return p == 0 })
}

// turned tells s with the bits of p turned, from bit at on, the lowest of a byte first; false, if not all of them are in s.
func turned(s string, at int, p uint32) (string, bool) {
	b := []byte(s)
	for bit := range 32 {
		if p>>bit&1 == 0 {
			continue
		}
		if at+bit >= 8*len(b) {
			return "", false
		}
		b[(at+bit)/8] ^= 1 << ((at + bit) % 8)
	}
	return string(b), true
}

// P2.4: bits within 32 in a row, anywhere from the first bit to the last one, make another sum, and what is sealed is not opened, also where they are in the sum, or partly.
func TestDamage(t *testing.T) {
	done := 0
	for _, s := range []string{"", "a", "abcd", "\x00\x00\x00\x00\x00\x00", "\xff\xff\xff\xff\xff", string(noise(40, 5))} {
		sum, sealed := crc.Sum(s), crc.Seal(s)
		for _, p := range patterns() {
			for at := range 8 * len(sealed) {
				if x, ok := turned(s, at, p); ok && crc.Sum(x) == sum {
					t.Fatalf("%q from %d on turned by %#x: the sum is the same", s, at, p)
				}
				x, ok := turned(sealed, at, p)
				if !ok {
					continue
				}
				done++
				if got, e := crc.Open(x); got != "" || e != api.ErrSum {
					t.Fatalf("%q sealed, from %d on turned by %#x: %q, error %d", s, at, p, got, e)
				}
			}
		}
	}
	if done < 100000 {
		t.Errorf("only %d", done)
	}
}

// P2.4: it does not matter in which pieces bytes come.
func TestPieces(t *testing.T) {
	s := string(noise(60, 9))
	want := worked(s)
	for i := range len(s) + 1 {
		for j := i; j <= len(s); j++ {
			if n := crc.Sum(s[:i], s[i:j], s[j:]); n != want {
				t.Errorf("%d, %d: %#x", i, j, n)
			}
			if n := crc.More(crc.More(crc.Sum(s[:i]), s[i:j]), s[j:]); n != want {
				t.Errorf("More at %d, %d: %#x", i, j, n)
			}
		}
	}
	if n := crc.Sum(strings.Split(s, "")...); n != want {
		t.Errorf("byte by byte: %#x", n)
	}
	sum := 0
	for i := range len(s) {
		sum = crc.More(sum, s[i:i+1])
	}
	if sum != want {
		t.Errorf("More byte by byte: %#x", sum)
	}
}

// What is handed in, and what stands behind its end, stays as it was.
func TestSumLeavesItsList(t *testing.T) {
	all := []string{"a", "b", "c", "d"}
	if n := crc.Sum(all[:2]...); n != crc.Sum("ab") {
		t.Errorf("%#x", n)
	}
	if !slices.Equal(all, []string{"a", "b", "c", "d"}) {
		t.Error(all)
	}
}
