// Package bin is layer 1: see shared/doc/01-bin.md.
package bin

import (
	"bytes"
	"math/bits"

	"scrinium/api"
)

// How a small number's first byte is meant.
const (
	lastAlone = 250 // the greatest that is the number itself; what is above it says by how much how many bytes follow
	noNumber  = 255 // begins no small number
)

// Writer puts numbers and texts.
type Writer struct {
	out []byte
}

// Reader takes them.
type Reader struct {
	text []byte
	at   int
}

// Num puts x as a number of n bytes.
func (w *Writer) Num(x uint64, n int) api.Errno {
	if w == nil {
		return api.ErrNil
	}
	if !widthRight(n) {
		return api.ErrArg
	}
	if x>>(8*n) != 0 {
		return api.ErrRange
	}
	w.putNumber(x, n)
	return api.OK
}

// Small puts x as a small number.
func (w *Writer) Small(x uint64) api.Errno {
	if w == nil {
		return api.ErrNil
	}
	if x>>32 != 0 {
		return api.ErrRange
	}
	w.putSmall(x)
	return api.OK
}

// Text puts t, its length ahead of it.
func (w *Writer) Text(t []byte) api.Errno {
	if w == nil {
		return api.ErrNil
	}
	if len(t) > api.MaxBytes {
		return api.ErrFull
	}
	w.putSmall(uint64(len(t)))
	w.put(t...)
	return api.OK
}

// Out is all that was put.
func (w *Writer) Out() []byte {
	if w == nil {
		return nil
	}
	return bytes.Clone(w.out)
}

func (w *Writer) put(b ...byte) {
	w.out = append(w.out, b...)
}

func (w *Writer) putNumber(x uint64, n int) {
	for i := range n {
		w.put(byte(x >> (8 * (n - 1 - i))))
	}
}

func (w *Writer) putSmall(x uint64) {
	n := following(x)
	if n == 0 {
		w.put(byte(x))
		return
	}
	w.put(byte(lastAlone + n))
	w.putNumber(x, n)
}

// New is a reader from b's first byte on.
func New(b []byte) *Reader {
	return &Reader{text: bytes.Clone(b)}
}

// Num takes a number of n bytes.
func (r *Reader) Num(n int) (uint64, api.Errno) {
	if r == nil {
		return 0, api.ErrNil
	}
	if !widthRight(n) {
		return 0, api.ErrArg
	}
	left := r.left()
	if len(left) < n {
		return 0, api.ErrShort
	}
	r.at += n
	return number(left[:n]), api.OK
}

// Small takes a small number that is at most most.
func (r *Reader) Small(most uint64) (uint64, api.Errno) {
	if r == nil {
		return 0, api.ErrNil
	}
	x, size, e := small(r.left(), most)
	if e != api.OK {
		return 0, e
	}
	r.at += size
	return x, api.OK
}

// Text takes a text of at most most bytes.
func (r *Reader) Text(most int) ([]byte, api.Errno) {
	if r == nil {
		return nil, api.ErrNil
	}
	left := r.left()
	length, size, e := small(left, uint64(max(most, 0)))
	if e != api.OK {
		return nil, e
	}
	// Held against each other ahead of the conversion: an int may be narrower than the length.
	if length > uint64(len(left)-size) {
		return nil, api.ErrShort
	}
	end := size + int(length)
	r.at += end
	return bytes.Clone(left[size:end]), api.OK
}

// At is how many bytes were taken.
func (r *Reader) At() int {
	if r == nil {
		return 0
	}
	return r.at
}

// End is OK if every byte was taken.
func (r *Reader) End() api.Errno {
	if r == nil {
		return api.ErrNil
	}
	if len(r.left()) > 0 {
		return api.ErrForm
	}
	return api.OK
}

func (r *Reader) left() []byte {
	return r.text[r.at:]
}

func widthRight(n int) bool {
	return n >= 1 && n <= 8
}

// following is how many bytes follow a small number's first byte where x is told as shortly as can be: the writer keeps to it, and the reader refuses all else, so that no number is told in two ways.
func following(x uint64) int {
	if x <= lastAlone {
		return 0
	}
	return (bits.Len64(x) + 7) / 8
}

// number is what b tells, the highest byte first.
func number(b []byte) uint64 {
	var x uint64
	for i := range len(b) {
		x = x<<8 | uint64(b[i])
	}
	return x
}

// small is the small number that b begins with and how many bytes tell it. It moves no reader, so that an error, whoever meets it, leaves the reader as it was.
func small(b []byte, most uint64) (x uint64, size int, e api.Errno) {
	if len(b) == 0 {
		return 0, 0, api.ErrShort
	}
	if b[0] == noNumber {
		return 0, 0, api.ErrForm
	}
	n := max(int(b[0])-lastAlone, 0)
	size = 1 + n
	if len(b) < size {
		return 0, 0, api.ErrShort
	}
	x = uint64(b[0])
	if n > 0 {
		x = number(b[1:size])
	}
	if following(x) != n {
		return 0, 0, api.ErrForm
	}
	if x > most {
		return 0, 0, api.ErrRange
	}
	return x, size, api.OK
}
