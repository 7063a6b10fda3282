package bin_test

import (
	"bytes"
	"math"
	"testing"

	"scrinium/api"
	"scrinium/bin"
)

func wantAt(t *testing.T, r *bin.Reader, want int) {
	t.Helper()
	if got := r.At(); got != want {
		t.Errorf("at %d, want %d", got, want)
	}
}

// P1.2: Num takes n bytes, the highest first.
func TestReaderNum(t *testing.T) {
	b := []byte{1, 2, 3, 4, 5, 6, 7, 8, 9}
	for n, want := range []uint64{0, 1, 0x0102, 0x010203, 0x01020304, 0x0102030405, 0x010203040506, 0x01020304050607, 0x0102030405060708} {
		if n == 0 {
			continue
		}
		r := bin.New(b)
		if x, e := r.Num(n); x != want || e != api.OK {
			t.Errorf("Num(%d): %x, %v", n, x, e)
		}
		wantAt(t, r, n)
		if x, e := r.Num(1); x != uint64(n+1) || e != api.OK {
			t.Errorf("behind Num(%d): %x, %v", n, x, e)
		}
	}
	r := bin.New(bytes.Repeat([]byte{0xff}, 8))
	if x, e := r.Num(8); x != math.MaxUint64 || e != api.OK || r.End() != api.OK {
		t.Errorf("the greatest: %x, %v, %v", x, e, r.End())
	}
}

// P1.2, R2: ErrArg is named ahead of ErrShort; an error takes nothing and answers 0.
func TestReaderNumErrors(t *testing.T) {
	for _, left := range []int{0, 3, 9} {
		r := bin.New(bytes.Repeat([]byte{5}, left))
		for _, n := range []int{0, -1, 9, math.MinInt, math.MaxInt} {
			if x, e := r.Num(n); x != 0 || e != api.ErrArg {
				t.Errorf("Num(%d) of %d: %x, %v", n, left, x, e)
			}
		}
		for n := left + 1; n <= 8; n++ {
			if x, e := r.Num(n); x != 0 || e != api.ErrShort {
				t.Errorf("Num(%d) of %d: %x, %v", n, left, x, e)
			}
		}
		wantAt(t, r, 0)
	}
	r := bin.New([]byte{1, 2, 3})
	r.Num(2)
	if x, e := r.Num(2); x != 0 || e != api.ErrShort {
		t.Errorf("two of the one that is left: %x, %v", x, e)
	}
	wantAt(t, r, 2)
	if x, e := r.Num(1); x != 3 || e != api.OK {
		t.Errorf("behind an error: %x, %v", x, e)
	}
}

// P1.2: Small takes just its own bytes; a number that is most itself is taken, one above it is not.
func TestReaderSmall(t *testing.T) {
	for _, c := range smallForms {
		b := append(bytes.Clone(c.form), 0xff)
		r := bin.New(b)
		if c.x > 0 {
			if x, e := r.Small(c.x - 1); x != 0 || e != api.ErrRange {
				t.Errorf("Small(%d) of %d: %d, %v", c.x-1, c.x, x, e)
			}
			wantAt(t, r, 0)
		}
		if x, e := r.Small(c.x); x != c.x || e != api.OK {
			t.Errorf("Small of %d: %d, %v", c.x, x, e)
		}
		wantAt(t, r, len(c.form))
		if x, e := bin.New(b).Small(math.MaxUint64); x != c.x || e != api.OK {
			t.Errorf("Small of %d, no bound: %d, %v", c.x, x, e)
		}
	}
}

// P1.2, R2: what isn't a small number, and which of its errors comes first.
func TestReaderSmallErrors(t *testing.T) {
	for _, c := range []struct {
		b    string
		most uint64
		want api.Errno
	}{
		{"", 9, api.ErrShort},
		{"\xfb", 9, api.ErrShort},
		{"\xfc", 9, api.ErrShort},
		{"\xfc\x01", 9, api.ErrShort},
		{"\xfd\x01\x00", 9, api.ErrShort},
		{"\xfe\x01\x00\x00", 9, api.ErrShort},
		// The zero ahead tells already that it is too long, but ErrShort is named first.
		{"\xfc\x00", math.MaxUint64, api.ErrShort},
		{"\xfe\x00\x00\x00", math.MaxUint64, api.ErrShort},
		{"\xff", math.MaxUint64, api.ErrForm},
		{"\xff\x01\x02\x03\x04\x05", math.MaxUint64, api.ErrForm},
		{"\xff", 0, api.ErrForm},
		{"\xfb\x00", math.MaxUint64, api.ErrForm},
		{"\xfb\xfa", math.MaxUint64, api.ErrForm},
		{"\xfc\x00\x05", math.MaxUint64, api.ErrForm},
		{"\xfc\x00\xff", math.MaxUint64, api.ErrForm},
		{"\xfd\x00\x00\x05", math.MaxUint64, api.ErrForm},
		{"\xfd\x00\xff\xff", math.MaxUint64, api.ErrForm},
		{"\xfe\x00\x00\x00\x00", math.MaxUint64, api.ErrForm},
		{"\xfe\x00\xff\xff\xff", math.MaxUint64, api.ErrForm},
		// Above most, too, but ErrForm is named first.
		{"\xfb\xfa", 1, api.ErrForm},
		{"\xfd\x00\xff\xff", 0, api.ErrForm},
		{"\x01", 0, api.ErrRange},
		{"\xfb\xff", 254, api.ErrRange},
		{"\xfe\xff\xff\xff\xff", 1<<32 - 2, api.ErrRange},
	} {
		r := bin.New([]byte("\x07" + c.b))
		r.Num(1)
		if x, e := r.Small(c.most); x != 0 || e != c.want {
			t.Errorf("Small(%d) of % x: %d, %v, want %v", c.most, c.b, x, e, c.want)
		}
		wantAt(t, r, 1)
	}
}

// P1.2: Text takes its length and its bytes; a length that is most itself is taken.
func TestReaderText(t *testing.T) {
	for _, length := range []int{0, 1, 250, 251, 255, 256, api.MaxBytes - 1, api.MaxBytes} {
		text := counting(length)
		var w bin.Writer
		w.Text(text)
		whole := len(w.Out())
		w.Num(0x55, 1)
		r := bin.New(w.Out())
		got, e := r.Text(length)
		if !bytes.Equal(got, text) || e != api.OK {
			t.Errorf("a text of %d: %d bytes, %v", length, len(got), e)
		}
		wantAt(t, r, whole)
		if x, e := r.Num(1); x != 0x55 || e != api.OK {
			t.Errorf("behind a text of %d: %x, %v", length, x, e)
		}
		if got, e := bin.New(w.Out()).Text(math.MaxInt); !bytes.Equal(got, text) || e != api.OK {
			t.Errorf("a text of %d, no bound: %d bytes, %v", length, len(got), e)
		}
	}
}

// P1.2: only most bounds what is taken, so a text that no Writer puts is taken too.
func TestReaderTextBeyondMaxBytes(t *testing.T) {
	text := counting(api.MaxBytes + 1)
	r := bin.New(append([]byte{0xfd, 1, 0, 1}, text...))
	if _, e := r.Text(api.MaxBytes); e != api.ErrRange {
		t.Error(e)
	}
	if got, e := r.Text(api.MaxBytes + 1); !bytes.Equal(got, text) || e != api.OK || r.End() != api.OK {
		t.Errorf("%d bytes, %v", len(got), e)
	}
}

// P1.2, R2: a length's errors come ahead of the bytes'; none takes anything, its length neither.
func TestReaderTextErrors(t *testing.T) {
	for _, c := range []struct {
		b    string
		most int
		want api.Errno
	}{
		{"", 9, api.ErrShort},
		{"\xfb", 9, api.ErrShort},
		{"\xfe\x01\x00\x00", 9, api.ErrShort},
		{"\xff", 9, api.ErrForm},
		{"\xfb\x01a", 9, api.ErrForm},
		{"\xfc\x00\x01a", 0, api.ErrForm},
		{"\x02ab", 1, api.ErrRange},
		{"\x02a", 1, api.ErrRange},
		{"\x02ab", 0, api.ErrRange},
		{"\x02ab", -1, api.ErrRange},
		{"\x02ab", math.MinInt, api.ErrRange},
		{"\x01", 9, api.ErrShort},
		{"\x03ab", 3, api.ErrShort},
		{"\xfb\xfbab", math.MaxInt, api.ErrShort},
		{"\xfe\xff\xff\xff\xffab", math.MaxInt, api.ErrShort},
		{"\xfe\x80\x00\x00\x00ab", math.MaxInt, api.ErrShort},
	} {
		r := bin.New([]byte("\x07" + c.b))
		r.Num(1)
		if got, e := r.Text(c.most); len(got) != 0 || e != c.want {
			t.Errorf("Text(%d) of % x: % x, %v, want %v", c.most, c.b, got, e, c.want)
		}
		wantAt(t, r, 1)
	}
}

// P1.2: most below 0 is 0, which a text of no bytes keeps to.
func TestReaderTextNone(t *testing.T) {
	for _, most := range []int{0, -1, math.MinInt} {
		r := bin.New([]byte{0, 9})
		if got, e := r.Text(most); len(got) != 0 || e != api.OK {
			t.Errorf("Text(%d): % x, %v", most, got, e)
		}
		wantAt(t, r, 1)
	}
}

// P1.2: At counts what was taken, End tells whether anything is left.
func TestReaderAtEnd(t *testing.T) {
	for _, b := range [][]byte{nil, {}} {
		r := bin.New(b)
		wantAt(t, r, 0)
		if e := r.End(); e != api.OK {
			t.Error(e)
		}
	}
	r := bin.New([]byte{1, 0xfc, 1, 0, 2, 'a', 'b'})
	for i, take := range []func(){
		func() { r.Num(1) },
		func() { r.Small(256) },
		func() { r.Text(2) },
	} {
		if e := r.End(); e != api.ErrForm {
			t.Errorf("ahead of %d: %v", i, e)
		}
		take()
		wantAt(t, r, []int{1, 4, 7}[i])
	}
	if e := r.End(); e != api.OK {
		t.Error(e)
	}
	wantAt(t, r, 7)
}

// P1.3: a nil Reader answers ErrNil, whatever else is wrong, and has nothing.
func TestNilReader(t *testing.T) {
	var r *bin.Reader
	for _, n := range []int{1, 0, 9} {
		if x, e := r.Num(n); x != 0 || e != api.ErrNil {
			t.Errorf("Num(%d): %x, %v", n, x, e)
		}
	}
	if x, e := r.Small(9); x != 0 || e != api.ErrNil {
		t.Errorf("Small: %d, %v", x, e)
	}
	for _, most := range []int{9, -1} {
		if got, e := r.Text(most); len(got) != 0 || e != api.ErrNil {
			t.Errorf("Text(%d): % x, %v", most, got, e)
		}
	}
	wantAt(t, r, 0)
	if e := r.End(); e != api.ErrNil {
		t.Error(e)
	}
}

// R4: what New is handed is neither changed nor kept, spare room included.
func TestReaderKeepsNoArgument(t *testing.T) {
	room := []byte{2, 'a', 'b', 2, 'c', 'd', 'e'}
	r := bin.New(room[:6])
	first, _ := r.Text(2)
	if !bytes.Equal(room, []byte{2, 'a', 'b', 2, 'c', 'd', 'e'}) {
		t.Errorf("the argument became % x", room)
	}
	fill(room, 0)
	second, e := r.Text(2)
	if string(first) != "ab" || string(second) != "cd" || e != api.OK {
		t.Errorf("%q, %q, %v", first, second, e)
	}
	if e := r.End(); e != api.OK {
		t.Error(e)
	}
}

// R4: what Text answers is shared with neither the reader nor another answer, spare room included.
func TestTextIsNew(t *testing.T) {
	room := []byte{2, 'a', 'b', 0, 1, 'c', 1, 'd'}
	r := bin.New(room)
	var taken [][]byte
	for range 3 {
		text, _ := r.Text(2)
		taken = append(taken, bytes.Clone(text))
		fill(text, 0xee)
	}
	last, e := r.Text(2)
	if got := bytes.Join(taken, []byte("|")); string(got) != "ab||c" || string(last) != "d" || e != api.OK {
		t.Errorf("%q, %q, %v", got, last, e)
	}
	if !bytes.Equal(room, []byte{2, 'a', 'b', 0, 1, 'c', 1, 'd'}) {
		t.Errorf("the argument became % x", room)
	}
}

// R5: two readers of one list take each for itself.
func TestReadersAreApart(t *testing.T) {
	b := []byte{1, 2, 3}
	r, s := bin.New(b), bin.New(b)
	r.Num(2)
	if x, e := s.Num(1); x != 1 || e != api.OK {
		t.Errorf("%x, %v", x, e)
	}
	wantAt(t, r, 2)
	wantAt(t, s, 1)
}
