package code_test

import (
	"runtime"
	"slices"
	"strings"
	"testing"

	"calamus/api"
	"calamus/code"
)

// expect holds against a reader what is left, and its error.
func expect(t *testing.T, what string, r *code.Reader, left int, e api.Errno) {
	t.Helper()
	if r.Left() != left || r.Err() != e {
		t.Errorf("%s: left %d, error %d; wanted %d, %d", what, r.Left(), r.Err(), left, e)
	}
}

// spent wants a reader that answers nothing any more, whatever is asked, and whose error stays.
func spent(t *testing.T, what string, r *code.Reader, e api.Errno) {
	t.Helper()
	for range 2 {
		expect(t, what, r, 0, e)
		if n := r.Num(); n != 0 {
			t.Errorf("%s: then Num %d", what, n)
		}
		expect(t, what+", Num", r, 0, e)
		for _, most := range []int{-1, 0, 1, api.MaxNum} {
			if s := r.Text(most); s != "" {
				t.Errorf("%s: then Text %q", what, s)
			}
			if l := r.Nums(most); len(l) != 0 {
				t.Errorf("%s: then Nums %v", what, l)
			}
			expect(t, what+", Text and Nums", r, 0, e)
		}
	}
}

// P1.2, P1.3: things of all kinds, one behind the other, and what is left between them.
func TestReaderGoesOn(t *testing.T) {
	r := code.NewReader(code.Num(258) + code.Text("ab") + code.Nums(5, api.MaxNum) + code.Text("") + code.Nums() + code.Num(0) + "x\x00y")
	expect(t, "at first", r, 4+6+12+4+4+4+3, api.OK)
	if n := r.Num(); n != 258 {
		t.Error(n)
	}
	expect(t, "Num", r, 33, api.OK)
	if s := r.Text(2); s != "ab" {
		t.Errorf("%q", s)
	}
	expect(t, "Text", r, 27, api.OK)
	if l := r.Nums(2); !slices.Equal(l, []int{5, api.MaxNum}) {
		t.Error(l)
	}
	expect(t, "Nums", r, 15, api.OK)
	if s := r.Text(0); s != "" {
		t.Errorf("%q", s)
	}
	expect(t, "an empty text", r, 11, api.OK)
	if l := r.Nums(0); len(l) != 0 {
		t.Error(l)
	}
	expect(t, "an empty list", r, 7, api.OK)
	if n := r.Num(); n != 0 {
		t.Error(n)
	}
	expect(t, "nought", r, 3, api.OK)
	if n := r.Num(); n != 0 {
		t.Error(n)
	}
	spent(t, "three bytes", r, api.ErrEnd)
}

// P1.2, P1.3: Num's errors.
func TestReaderNum(t *testing.T) {
	for _, x := range []struct {
		s string
		n int
		e api.Errno
	}{
		{"", 0, api.ErrEnd},
		{"\x01", 0, api.ErrEnd},
		{"\xff\xff", 0, api.ErrEnd},
		{"\xff\xff\xff", 0, api.ErrEnd},
		{"\x00\x00\x00\x80", 0, api.ErrRange},
		{"\xff\xff\xff\xff", 0, api.ErrRange},
		{"\x01\x00\x00\x80more", 0, api.ErrRange},
		{"\xff\xff\xff\x7f", api.MaxNum, api.OK},
		{"\x04\x03\x02\x01", 0x01020304, api.OK},
	} {
		r := code.NewReader(x.s)
		if n := r.Num(); n != x.n || r.Err() != x.e {
			t.Errorf("%q: %d, error %d", x.s, n, r.Err())
		}
		if x.e != api.OK {
			spent(t, "Num", r, x.e)
		}
	}
}

// P1.2, P1.3: Text's errors, and which of several is told.
func TestReaderText(t *testing.T) {
	for _, x := range []struct {
		s    string
		most int
		text string
		e    api.Errno
	}{
		{"", 9, "", api.ErrEnd},
		{"\x01\x00\x00", 9, "", api.ErrEnd},
		{"\x01\x00\x00", -1, "", api.ErrEnd},
		{"\x00\x00\x00\x80", api.MaxNum, "", api.ErrRange},
		{"\x00\x00\x00\x80", api.MaxNum + 1, "", api.ErrRange},
		{"\x00\x00\x00\x00", -1, "", api.ErrRange},
		{"\x00\x00\x00\x00", 0, "", api.OK},
		{"\x01\x00\x00\x00a", 0, "", api.ErrRange},
		{"\x03\x00\x00\x00abc", 2, "", api.ErrRange},
		{"\x03\x00\x00\x00ab", 2, "", api.ErrRange},
		{"\x03\x00\x00\x00ab", 3, "", api.ErrEnd},
		{"\x03\x00\x00\x00", 3, "", api.ErrEnd},
		{"\xff\xff\xff\x7fabc", api.MaxNum, "", api.ErrEnd},
		{"\x03\x00\x00\x00abc", 3, "abc", api.OK},
		{"\x03\x00\x00\x00abcd", 4, "abc", api.OK},
		{"\x04\x00\x00\x00\x00\xff\n\x80", api.MaxText, "\x00\xff\n\x80", api.OK},
	} {
		r := code.NewReader(x.s)
		if s := r.Text(x.most); s != x.text || r.Err() != x.e {
			t.Errorf("%q, %d: %q, error %d", x.s, x.most, s, r.Err())
		}
		if x.e != api.OK {
			spent(t, "Text", r, x.e)
		}
	}
}

// P1.2, P1.3: Nums's errors: of the numbers the first one that has an error tells which.
func TestReaderNums(t *testing.T) {
	const none = "\x00\x00\x00\x80"
	for _, x := range []struct {
		s    string
		most int
		l    []int
		e    api.Errno
	}{
		{"", 9, nil, api.ErrEnd},
		{"\x01\x00\x00", -1, nil, api.ErrEnd},
		{none, api.MaxNum + 1, nil, api.ErrRange},
		{code.Nums(), -1, nil, api.ErrRange},
		{code.Nums(), 0, nil, api.OK},
		{code.Nums(1, 2), 1, nil, api.ErrRange},
		{code.Num(2), 1, nil, api.ErrRange},
		{code.Num(2), 2, nil, api.ErrEnd},
		{code.Num(2) + code.Num(7), 2, nil, api.ErrEnd},
		{code.Num(2) + code.Num(7) + "\x01\x00\x00", 2, nil, api.ErrEnd},
		{code.Num(3) + none, 3, nil, api.ErrRange},
		{code.Num(3) + code.Num(7) + none, 3, nil, api.ErrRange},
		{code.Num(3) + code.Num(7) + none + code.Num(8), 3, nil, api.ErrRange},
		{code.Num(3) + code.Num(7) + code.Num(8) + none[:3], 3, nil, api.ErrEnd},
		{code.Num(1) + code.Num(7) + none, 3, []int{7}, api.OK},
		{code.Nums(1, 2, 3), 3, []int{1, 2, 3}, api.OK},
		{code.Nums(1, api.MaxNum, 0), api.MaxNum, []int{1, api.MaxNum, 0}, api.OK},
	} {
		r := code.NewReader(x.s)
		if l := r.Nums(x.most); !slices.Equal(l, x.l) || r.Err() != x.e {
			t.Errorf("%q, %d: %v, error %d", x.s, x.most, l, r.Err())
		}
		if x.e != api.OK {
			spent(t, "Nums", r, x.e)
		}
	}
}

// P1.2: a list of which the bytes tell that it has very many numbers, and has few, ends soon, and takes little room.
func TestReaderNumsOfFewBytes(t *testing.T) {
	var before, after runtime.MemStats
	runtime.ReadMemStats(&before)
	r := code.NewReader(code.Num(api.MaxNum) + strings.Repeat(code.Num(1), 1000))
	if l := r.Nums(api.MaxNum); len(l) != 0 {
		t.Error(len(l))
	}
	runtime.ReadMemStats(&after)
	spent(t, "few bytes", r, api.ErrEnd)
	if n := after.TotalAlloc - before.TotalAlloc; n > 1<<20 {
		t.Errorf("%d bytes of room", n)
	}
}

// P1.3: the first error stays, where others would come.
func TestFirstErrorStays(t *testing.T) {
	r := code.NewReader(code.Text("abc") + "\x00\x00\x00\x80" + "z")
	r.Text(2)
	spent(t, "a long text ahead", r, api.ErrRange)
	r = code.NewReader("\x00\x00\x00\x80" + code.Num(1))
	r.Num()
	spent(t, "a number behind", r, api.ErrRange)
	r = code.NewReader("\x02\x00\x00\x00a")
	r.Text(2)
	r.Text(-1)
	spent(t, "a short text", r, api.ErrEnd)
}

// P1.4: a nil Reader.
func TestNilReader(t *testing.T) {
	var r *code.Reader
	spent(t, "nil", r, api.ErrEnd)
}

// P1.4: a Reader that NewReader did not give is one of no bytes: it has no error till something is asked of it.
func TestReaderOfNobody(t *testing.T) {
	for _, ask := range []func(*code.Reader) bool{
		func(r *code.Reader) bool { return r.Num() == 0 },
		func(r *code.Reader) bool { return r.Text(9) == "" },
		func(r *code.Reader) bool { return r.Text(-1) == "" },
		func(r *code.Reader) bool { return len(r.Nums(9)) == 0 },
		func(r *code.Reader) bool { return len(r.Nums(-1)) == 0 },
	} {
		var zero code.Reader
		expect(t, "zero", &zero, 0, api.OK)
		if !ask(&zero) {
			t.Error("zero answers something")
		}
		spent(t, "zero", &zero, api.ErrEnd)
		if r := new(code.Reader); !ask(r) {
			t.Error("new answers something")
		} else {
			spent(t, "new", r, api.ErrEnd)
		}
	}
}

// P1.4: a copy was not given either; it has no bytes, and leaves the one that it was made of alone.
func TestCopyOfReader(t *testing.T) {
	given := code.NewReader(code.Nums(1, 2) + code.Num(3))
	early := *given
	expect(t, "an early copy", &early, 0, api.OK)
	given.Nums(2)
	late := *given
	if n := late.Num(); n != 0 {
		t.Error(n)
	}
	spent(t, "a late copy", &late, api.ErrEnd)
	expect(t, "the one given", given, 4, api.OK)
	if n := given.Num(); n != 3 {
		t.Error(n)
	}
	broken := code.NewReader("\xff\xff\xff\xff")
	broken.Num()
	again := *broken
	expect(t, "a copy of a broken one", &again, 0, api.OK)
	spent(t, "a broken one", broken, api.ErrRange)
}

// P1.5: what was written is read, thing by thing.
func TestWrittenIsRead(t *testing.T) {
	texts := []string{"", "a", "ab\ncd", "\x00\x00\x00\x80", "\xff", "é€😀", strings.Repeat("long ", 900)}
	for _, n := range numbers() {
		r := code.NewReader(code.Num(n))
		if got := r.Num(); got != n {
			t.Errorf("%d: %d", n, got)
		}
		expect(t, "a number", r, 0, api.OK)
	}
	for _, s := range texts {
		r := code.NewReader(code.Text(s))
		if got := r.Text(len(s)); got != s {
			t.Errorf("%q: %q", s, got)
		}
		expect(t, "a text", r, 0, api.OK)
	}
	all := numbers()
	for k := range len(all) + 1 {
		r := code.NewReader(code.Nums(all[:k]...))
		if got := r.Nums(k); !slices.Equal(got, all[:k]) {
			t.Errorf("%v: %v", all[:k], got)
		}
		expect(t, "a list", r, 0, api.OK)
	}
	var b strings.Builder
	for _, n := range all {
		b.WriteString(code.Num(n) + code.Text(texts[n%len(texts)]) + code.Nums(n, n))
	}
	r := code.NewReader(b.String())
	for _, n := range all {
		if got := r.Num(); got != n {
			t.Fatalf("%d: %d", n, got)
		}
		if got := r.Text(api.MaxText + 500); got != texts[n%len(texts)] {
			t.Fatalf("%d: %q", n, got)
		}
		if got := r.Nums(2); !slices.Equal(got, []int{n, n}) {
			t.Fatalf("%d: %v", n, got)
		}
	}
	expect(t, "all", r, 0, api.OK)
}

// short are all texts of up to most bytes, of some bytes that matter.
func short(most int) []string {
	all := []string{""}
	for from := 0; most > 0; most-- {
		to := len(all)
		for _, s := range all[from:to] {
			for _, b := range []string{"\x00", "\x01", "\x02", "\x7f", "\x80"} {
				all = append(all, s+b)
			}
		}
		from = to
	}
	return all
}

// P1.5: of what is read, the bytes are those that were there.
func TestReadIsWritten(t *testing.T) {
	read := 0
	for _, s := range append(short(6), "\x01\x00\x00\x00\x02\x00\x00\x7f", "\x02\x00\x00\x00\x01\x02\x00\x00\x00\x00\x01\x00z") {
		r := code.NewReader(s)
		n := r.Num()
		if r.Err() == api.OK && code.Num(n) != s[:len(s)-r.Left()] {
			t.Errorf("%q: %d", s, n)
		}
		r = code.NewReader(s)
		x := r.Text(api.MaxNum)
		if r.Err() == api.OK && code.Text(x) != s[:len(s)-r.Left()] {
			t.Errorf("%q: %q", s, x)
		}
		r = code.NewReader(s)
		l := r.Nums(api.MaxNum)
		if r.Err() == api.OK && code.Nums(l...) != s[:len(s)-r.Left()] {
			t.Errorf("%q: %v", s, l)
		}
		if r.Err() == api.OK {
			read++
		}
	}
	if read < 3 {
		t.Errorf("%d lists were read", read)
	}
}

// Readers know nothing of each other, and an answer is nobody's but the one's who asked.
func TestReadersApart(t *testing.T) {
	s := code.Nums(1, 2, 3)
	a, b := code.NewReader(s), code.NewReader(s)
	l := a.Nums(3)
	expect(t, "the other one", b, len(s), api.OK)
	l[0] = 9
	if got := b.Nums(3); !slices.Equal(got, []int{1, 2, 3}) {
		t.Error(got)
	}
	a = code.NewReader(s + s)
	l = a.Nums(3)
	m := a.Nums(3)
	l = append(l[:2], 7, 8, 9)
	if !slices.Equal(m, []int{1, 2, 3}) || l[2] != 7 {
		t.Error(l, m)
	}
}
