package bin_test

import (
	"bytes"
	"math"
	"testing"

	"scrinium/api"
	"scrinium/bin"
)

// P1.3: what was put is taken, all kinds one behind the other.
func TestWhatWasPutIsTaken(t *testing.T) {
	var w bin.Writer
	edges := []uint64{0, 1, 250, 251, 255, 256, 65535, 65536, 1<<24 - 1, 1 << 24, 1<<32 - 1}
	for i, x := range edges {
		w.Small(x)
		w.Num(x, 4+i%5)
		w.Text(counting(i * 60))
	}
	r := bin.New(w.Out())
	for i, x := range edges {
		if y, e := r.Small(1<<32 - 1); y != x || e != api.OK {
			t.Errorf("small %d: %d, %v", x, y, e)
		}
		if y, e := r.Num(4 + i%5); y != x || e != api.OK {
			t.Errorf("number %d: %d, %v", x, y, e)
		}
		if text, e := r.Text(i * 60); !bytes.Equal(text, counting(i*60)) || e != api.OK {
			t.Errorf("text %d: % x, %v", i, text, e)
		}
	}
	if e := r.End(); e != api.OK {
		t.Error(e)
	}
}

// P1.3: each small number of up to three bytes, and around each power of two.
func TestEachSmallIsTaken(t *testing.T) {
	try := func(x uint64) {
		var w bin.Writer
		w.Small(x)
		r := bin.New(w.Out())
		if y, e := r.Small(x); y != x || e != api.OK || r.End() != api.OK {
			t.Fatalf("small %d: %d, %v, %v", x, y, e, r.End())
		}
	}
	for x := range uint64(1<<16 + 1<<10) {
		try(x)
	}
	for bit := range 33 {
		for x := uint64(1)<<bit - 1; x < 1<<32 && x <= 1<<bit+1; x++ {
			try(x)
		}
	}
}

// P1.2, R1, R5: at any bytes each call ends without a panic, the same each time; what is taken is what a Writer would have put, and an error takes nothing.
func FuzzReader(f *testing.F) {
	for _, s := range []string{"", "\x05", "\xfa", "\xfb\xfb", "\xfb\xfa", "\xfc\x01\x00", "\xfc\x00\xff", "\xfd\x01\x00\x00", "\xfe\xff\xff\xff\xff", "\xfe\x01", "\xff", "\x02ab", "\x03ab"} {
		for _, most := range []int{-1, 0, 2, 256, math.MaxInt} {
			f.Add([]byte(s), most)
		}
	}
	f.Fuzz(func(t *testing.T, b []byte, most int) {
		checkTaking(t, b, most)
	})
}

// The same at all lists of at most two bytes, and at all heads of three with few kinds of bytes.
func TestReaderAtEachShortList(t *testing.T) {
	checkTaking(t, nil, 0)
	for i := range 256 {
		checkTaking(t, []byte{byte(i)}, i)
		for j := range 256 {
			checkTaking(t, []byte{byte(i), byte(j)}, 256)
		}
	}
	kinds := []byte{0, 1, 250, 251, 252, 253, 254, 255}
	for _, a := range kinds {
		for _, b := range kinds {
			for _, c := range kinds {
				checkTaking(t, []byte{a, b, c}, 1)
				checkTaking(t, []byte{a, b, c, 0, 9}, math.MaxInt)
			}
		}
	}
}

func checkTaking(t *testing.T, b []byte, most int) {
	t.Helper()
	for n := -1; n <= 10; n++ {
		var w bin.Writer
		r := bin.New(b)
		x, e := r.Num(n)
		checkTaken(t, b, r, e, func() api.Errno { return w.Num(x, n) }, &w)
		if y, f := bin.New(b).Num(n); x != y || e != f {
			t.Errorf("Num(%d) of % x: %d, %v, then %d, %v", n, b, x, e, y, f)
		}
	}
	var w, v bin.Writer
	r := bin.New(b)
	x, e := r.Small(uint64(most))
	checkTaken(t, b, r, e, func() api.Errno { return w.Small(x) }, &w)
	if x > uint64(most) {
		t.Errorf("Small(%d) of % x: %d", uint64(most), b, x)
	}
	r = bin.New(b)
	text, e := r.Text(most)
	if len(text) <= api.MaxBytes { // no Writer puts a longer one
		checkTaken(t, b, r, e, func() api.Errno { return v.Text(text) }, &v)
	}
	if len(text) > max(most, 0) {
		t.Errorf("Text(%d) of % x: %d bytes", most, b, len(text))
	}
}

func checkTaken(t *testing.T, b []byte, r *bin.Reader, e api.Errno, put func() api.Errno, w *bin.Writer) {
	t.Helper()
	if e != api.OK {
		wantAt(t, r, 0)
		return
	}
	if f := put(); f != api.OK {
		t.Errorf("taken of % x, but not to be put: %v", b, f)
	}
	if at := r.At(); !bytes.Equal(w.Out(), b[:at]) {
		t.Errorf("taken % x, but put % x", b[:at], w.Out())
	}
	if end := r.End(); (end == api.OK) != (r.At() == len(b)) {
		t.Errorf("at %d of %d: End %v", r.At(), len(b), end)
	}
}

// DOC.md, section 'Words': the limits and the errors' numbers on which all layers lean.
func TestLimitsAndErrors(t *testing.T) {
	limits := [][2]int{
		{api.MaxBytes, 65536}, {api.MaxName, 24}, {api.MaxSecret, 1000},
		{api.MaxFragments, 255}, {api.MaxMembers, 16}, {api.MaxEntries, 24},
		{api.MaxVersions, 4}, {api.MaxEpoch, 200}, {api.MaxTries, 5},
	}
	for i, l := range limits {
		if l[0] != l[1] {
			t.Errorf("limit %d is %d, want %d", i, l[0], l[1])
		}
	}
	for i, e := range []api.Errno{
		api.OK, api.ErrShort, api.ErrForm, api.ErrRange, api.ErrTag, api.ErrName, api.ErrNone,
		api.ErrFull, api.ErrDraw, api.ErrLost, api.ErrFew, api.ErrBad, api.ErrWait, api.ErrDown,
		api.ErrArg, api.ErrNil, api.ErrLine, api.ErrThere, api.ErrEpochs, api.ErrMaster,
	} {
		if int(e) != i {
			t.Errorf("error %d has number %d", i, int(e))
		}
	}
}
