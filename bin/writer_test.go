package bin_test

import (
	"bytes"
	"math"
	"testing"

	"scrinium/api"
	"scrinium/bin"
)

func wantOut(t *testing.T, w *bin.Writer, want []byte) {
	t.Helper()
	if got := w.Out(); !bytes.Equal(got, want) {
		t.Errorf("out % x, want % x", got, want)
	}
}

// P1.1: a number of n bytes, the highest first.
func TestWriterNum(t *testing.T) {
	for _, c := range []struct {
		x    uint64
		n    int
		want []byte
	}{
		{0, 1, []byte{0}},
		{0xff, 1, []byte{0xff}},
		{0x0102, 2, []byte{1, 2}},
		{0x0102, 3, []byte{0, 1, 2}},
		{0xffffff, 3, []byte{0xff, 0xff, 0xff}},
		{0x01020304, 4, []byte{1, 2, 3, 4}},
		{0x0102030405, 5, []byte{1, 2, 3, 4, 5}},
		{0x010203040506, 6, []byte{1, 2, 3, 4, 5, 6}},
		{0x01020304050607, 7, []byte{1, 2, 3, 4, 5, 6, 7}},
		{0x0102030405060708, 8, []byte{1, 2, 3, 4, 5, 6, 7, 8}},
		{0, 8, make([]byte, 8)},
		{math.MaxUint64, 8, bytes.Repeat([]byte{0xff}, 8)},
	} {
		var w bin.Writer
		if e := w.Num(c.x, c.n); e != api.OK {
			t.Errorf("Num(%x, %d): %v", c.x, c.n, e)
		}
		wantOut(t, &w, c.want)
	}
}

// P1.1, R2: ErrArg is named ahead of ErrRange, and an error puts nothing.
func TestWriterNumErrors(t *testing.T) {
	w := &bin.Writer{}
	w.Num(7, 1)
	for _, n := range []int{0, -1, 9, 64, math.MinInt, math.MaxInt} {
		for _, x := range []uint64{0, 1, math.MaxUint64} {
			if e := w.Num(x, n); e != api.ErrArg {
				t.Errorf("Num(%x, %d): %v", x, n, e)
			}
		}
	}
	for n := 1; n < 8; n++ {
		first := uint64(1) << (8 * n)
		for _, x := range []uint64{first, first + 1, math.MaxUint64} {
			if e := w.Num(x, n); e != api.ErrRange {
				t.Errorf("Num(%x, %d): %v", x, n, e)
			}
		}
	}
	wantOut(t, w, []byte{7})
	for n := 1; n < 8; n++ {
		if e := w.Num(uint64(1)<<(8*n)-1, n); e != api.OK {
			t.Errorf("the greatest of %d bytes: %v", n, e)
		}
	}
}

// smallForms: the chapter's examples, and each place at which a byte more is needed.
var smallForms = []struct {
	x    uint64
	form []byte
}{
	{0, []byte{0}},
	{1, []byte{1}},
	{249, []byte{0xf9}},
	{250, []byte{0xfa}},
	{251, []byte{0xfb, 0xfb}},
	{252, []byte{0xfb, 0xfc}},
	{255, []byte{0xfb, 0xff}},
	{256, []byte{0xfc, 1, 0}},
	{0x1234, []byte{0xfc, 0x12, 0x34}},
	{1<<16 - 1, []byte{0xfc, 0xff, 0xff}},
	{1 << 16, []byte{0xfd, 1, 0, 0}},
	{0x123456, []byte{0xfd, 0x12, 0x34, 0x56}},
	{1<<24 - 1, []byte{0xfd, 0xff, 0xff, 0xff}},
	{1 << 24, []byte{0xfe, 1, 0, 0, 0}},
	{0x12345678, []byte{0xfe, 0x12, 0x34, 0x56, 0x78}},
	{1 << 31, []byte{0xfe, 0x80, 0, 0, 0}},
	{1<<32 - 1, []byte{0xfe, 0xff, 0xff, 0xff, 0xff}},
}

// P1.1: a small number takes as few bytes as can be.
func TestWriterSmall(t *testing.T) {
	for _, c := range smallForms {
		var w bin.Writer
		if e := w.Small(c.x); e != api.OK {
			t.Errorf("Small(%d): %v", c.x, e)
		}
		wantOut(t, &w, c.form)
	}
}

// P1.1: 2^32 is the first that is no small number; an error puts nothing.
func TestWriterSmallErrors(t *testing.T) {
	w := &bin.Writer{}
	w.Small(9)
	for _, x := range []uint64{1 << 32, 1<<32 + 1, 1 << 40, math.MaxUint64} {
		if e := w.Small(x); e != api.ErrRange {
			t.Errorf("Small(%d): %v", x, e)
		}
	}
	wantOut(t, w, []byte{9})
}

// P1.1: a text is its length, as a small number, and its bytes, up to MaxBytes of them.
func TestWriterText(t *testing.T) {
	for _, c := range []struct {
		length int
		head   []byte
	}{
		{0, []byte{0}},
		{1, []byte{1}},
		{250, []byte{0xfa}},
		{251, []byte{0xfb, 0xfb}},
		{256, []byte{0xfc, 1, 0}},
		{api.MaxBytes - 1, []byte{0xfc, 0xff, 0xff}},
		{api.MaxBytes, []byte{0xfd, 1, 0, 0}},
	} {
		text := counting(c.length)
		var w bin.Writer
		if e := w.Text(text); e != api.OK {
			t.Errorf("a text of %d: %v", c.length, e)
		}
		if got, want := w.Out(), append(c.head, text...); !bytes.Equal(got, want) {
			t.Errorf("a text of %d: %d bytes that aren't its own", c.length, len(got))
		}
	}
	var w bin.Writer
	w.Text(nil)
	w.Text([]byte{})
	wantOut(t, &w, []byte{0, 0})
}

// P1.1: beyond MaxBytes there is no room; an error puts nothing.
func TestWriterTextErrors(t *testing.T) {
	w := &bin.Writer{}
	w.Text([]byte("a"))
	for _, length := range []int{api.MaxBytes + 1, 2 * api.MaxBytes} {
		if e := w.Text(make([]byte, length)); e != api.ErrFull {
			t.Errorf("a text of %d: %v", length, e)
		}
	}
	wantOut(t, w, []byte{1, 'a'})
}

// P1.1: all that was put, in its order, however often it is asked; MaxBytes bounds a text, not the writer.
func TestWriterOut(t *testing.T) {
	var w bin.Writer
	if got := w.Out(); len(got) != 0 {
		t.Errorf("a zero Writer has % x", got)
	}
	w.Num(1, 2)
	w.Small(300)
	wantOut(t, &w, []byte{0, 1, 0xfc, 1, 44})
	w.Text([]byte("xy"))
	w.Num(0x10000, 2)
	wantOut(t, &w, []byte{0, 1, 0xfc, 1, 44, 2, 'x', 'y'})
	wantOut(t, &w, []byte{0, 1, 0xfc, 1, 44, 2, 'x', 'y'})

	var long bin.Writer
	for range 3 {
		if e := long.Text(counting(api.MaxBytes)); e != api.OK {
			t.Fatal(e)
		}
	}
	if got, want := len(long.Out()), 3*(4+api.MaxBytes); got != want {
		t.Errorf("%d bytes, want %d", got, want)
	}
}

// P1.3: a nil Writer answers ErrNil, whatever else is wrong, and has nothing.
func TestNilWriter(t *testing.T) {
	var w *bin.Writer
	for i, e := range []api.Errno{w.Num(1, 1), w.Num(1, 0), w.Num(256, 1), w.Small(1), w.Small(1 << 32), w.Text(nil), w.Text(make([]byte, api.MaxBytes+1))} {
		if e != api.ErrNil {
			t.Errorf("call %d: %v", i, e)
		}
	}
	if got := w.Out(); len(got) != 0 {
		t.Errorf("out % x", got)
	}
}

// R4: a text that is handed in is neither changed nor kept, spare room included.
func TestWriterKeepsNoArgument(t *testing.T) {
	room := []byte("abcdef")
	var w bin.Writer
	w.Text(room[:3])
	w.Small(1)
	if string(room) != "abcdef" {
		t.Errorf("the argument became %q", room)
	}
	copy(room, "------")
	wantOut(t, &w, []byte{3, 'a', 'b', 'c', 1})
}

// R4: what Out answers is shared with neither the writer nor an earlier answer, spare room included.
func TestOutIsNew(t *testing.T) {
	var w bin.Writer
	want := []byte{}
	var earlier [][]byte
	for i := range 40 {
		w.Num(uint64(i), 1)
		want = append(want, byte(i))
		out := w.Out()
		if !bytes.Equal(out, want) {
			t.Fatalf("out % x, want % x", out, want)
		}
		earlier = append(earlier, out)
		again := w.Out()
		fill(again, 0xee)
	}
	for i, out := range earlier {
		if !bytes.Equal(out, want[:i+1]) {
			t.Errorf("answer %d became % x", i, out)
		}
	}
}

// R5: writers know nothing of one another, and the same calls put the same bytes.
func TestWritersAreApart(t *testing.T) {
	var a, b, alone bin.Writer
	for i := range 300 {
		a.Small(uint64(i))
		b.Text(counting(i))
		a.Num(uint64(i), 2)
	}
	for i := range 300 {
		alone.Small(uint64(i))
		alone.Num(uint64(i), 2)
	}
	wantOut(t, &a, alone.Out())
}

func counting(n int) []byte {
	b := make([]byte, n)
	for i := range b {
		b[i] = byte(i * 7)
	}
	return b
}

// fill spoils all that a list reaches, its spare room too.
func fill(b []byte, with byte) {
	b = b[:cap(b)]
	for i := range b {
		b[i] = with
	}
}
