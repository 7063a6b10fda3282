package frame_test

import (
	"bytes"
	"crypto/hmac"
	"crypto/sha256"
	"encoding/hex"
	"fmt"
	"math"
	"math/rand"
	"reflect"
	"sync"
	"testing"

	"scrinium/api"
	"scrinium/frame"
)

const (
	most     = 255   // pieces
	mostText = 65536 // bytes of a text
	tagSize  = 32
	ahead    = 1 + 16 + 3 + 2 // what stands ahead of the piece's length
)

var (
	classList = []int{32, 64, 128, 256, 512, 1024}
	mine      = api.Key{7, 8, 9}
	thing     = api.Id{0xab, 1, 2, 3, 4, 5, 6, 7, 8, 9, 10, 11, 12, 13, 14, 0xef}
)

func sample(n int) []byte {
	b := make([]byte, n)
	rand.New(rand.NewSource(int64(n) + 13)).Read(b)
	return b
}

// sizeOf is the least length that, k times, has room for a package of that class; 0 for what has none.
func sizeOf(class, k int) int {
	for _, c := range classList {
		if c == class && k >= 1 && k <= most {
			return int(math.Ceil(float64(class+16+32) / float64(k)))
		}
	}
	return 0
}

// rightBy tells by the words of the document whether f is right.
func rightBy(f api.Frame) bool {
	switch {
	case f.Count < 1 || f.Count > most:
		return false
	case f.K < 1 || f.K > f.Count:
		return false
	case f.Index < 0 || f.Index > f.Count-1:
		return false
	}
	return sizeOf(f.Class, f.K) > 0 && len(f.Piece) == sizeOf(f.Class, f.K)
}

// small is x as a small number, as short as can be.
func small(x int) []byte {
	switch {
	case x <= 250:
		return []byte{byte(x)}
	case x < 1<<8:
		return []byte{0xfb, byte(x)}
	case x < 1<<16:
		return []byte{0xfc, byte(x >> 8), byte(x)}
	}
	return []byte{0xfd, byte(x >> 16), byte(x >> 8), byte(x)}
}

// textOf is what stands ahead of the tag in the bytes of f, right or not, as far as its numbers fit.
func textOf(f api.Frame) []byte {
	out := append([]byte{0xf1}, f.Object[:]...)
	out = append(out, byte(f.Index), byte(f.Count), byte(f.K), byte(f.Class>>8), byte(f.Class))
	return append(append(out, small(len(f.Piece))...), f.Piece...)
}

// tagged is the text with its tag by key.
func tagged(key api.Key, text []byte) []byte {
	h := hmac.New(sha256.New, key[:])
	h.Write(text)
	return h.Sum(bytes.Clone(text))
}

// lengthOf tells, by the words of layer 1, the text's length that b begins with, and in how many bytes.
func lengthOf(b []byte) (length, size int, e api.Errno) {
	if len(b) == 0 {
		return 0, 0, api.ErrShort
	}
	if b[0] == 0xff {
		return 0, 0, api.ErrForm
	}
	if b[0] <= 250 {
		return int(b[0]), 1, api.OK
	}
	n := int(b[0]) - 250
	if len(b) < 1+n {
		return 0, 0, api.ErrShort
	}
	for _, x := range b[1 : 1+n] {
		length = length<<8 | int(x)
	}
	switch {
	case n == 1 && length <= 250 || n > 1 && length>>(8*(n-1)) == 0:
		return 0, 0, api.ErrForm
	case length > mostText:
		return 0, 0, api.ErrRange
	}
	return length, 1 + n, api.OK
}

// toldBy is what Get is to answer of a text whose tag is right.
func toldBy(text []byte) (api.Frame, api.Errno) {
	if len(text) < ahead {
		return api.Frame{}, api.ErrShort
	}
	length, size, e := lengthOf(text[ahead:])
	if e != api.OK {
		return api.Frame{}, e
	}
	rest := text[ahead+size:]
	if len(rest) < length {
		return api.Frame{}, api.ErrShort
	}
	if text[0] != 0xf1 || len(rest) > length {
		return api.Frame{}, api.ErrForm
	}
	f := api.Frame{Object: api.Id(text[1:17]), Index: int(text[17]), Count: int(text[18]), K: int(text[19]), Class: int(text[20])<<8 | int(text[21]), Piece: rest}
	if !rightBy(f) {
		return api.Frame{}, api.ErrArg
	}
	return f, api.OK
}

// fitting is a right frame of these numbers.
func fitting(index, count, k, class int) api.Frame {
	return api.Frame{Object: thing, Index: index, Count: count, K: k, Class: class, Piece: sample(sizeOf(class, k))}
}

func someFrame(r *rand.Rand) api.Frame {
	count := 1 + r.Intn(most)
	k := 1 + r.Intn(count)
	f := fitting(r.Intn(count), count, k, classList[r.Intn(len(classList))])
	r.Read(f.Object[:])
	r.Read(f.Piece)
	return f
}

// show is short, whatever the piece's length.
func show(f api.Frame) string {
	return fmt.Sprintf("%x, index %d of %d, k %d, class %d, piece of %d", f.Object, f.Index, f.Count, f.K, f.Class, len(f.Piece))
}

func like(a, b api.Frame) bool {
	same := bytes.Equal(a.Piece, b.Piece)
	a.Piece, b.Piece = nil, nil
	return same && reflect.DeepEqual(a, b)
}

func wantPut(t *testing.T, key api.Key, f api.Frame) []byte {
	t.Helper()
	got, e := frame.Put(key, f)
	if e != api.OK || !bytes.Equal(got, tagged(key, textOf(f))) {
		t.Errorf("%s: %x, %d", show(f), got, e)
	}
	return got
}

// wantRight is a right frame: it is put, and got again.
func wantRight(t *testing.T, key api.Key, f api.Frame) {
	t.Helper()
	if !frame.Right(f) {
		t.Errorf("%s: not right", show(f))
	}
	wantGot(t, key, wantPut(t, key, f), f)
}

// wantWrong is one that isn't right.
func wantWrong(t *testing.T, f api.Frame) {
	t.Helper()
	if frame.Right(f) {
		t.Errorf("%s: right", show(f))
	}
	if got, e := frame.Put(mine, f); len(got) != 0 || e != api.ErrArg {
		t.Errorf("%s: put as %x, %d", show(f), got, e)
	}
}

// wantGot is what Get, and Of, of the frame's own object and index, are to answer.
func wantGot(t *testing.T, key api.Key, b []byte, want api.Frame) {
	t.Helper()
	if got, e := frame.Get(key, b); e != api.OK || !like(got, want) {
		t.Errorf("got %s, %d, want %s", show(got), e, show(want))
	}
	if got, e := frame.Of(key, want.Object, want.Index, b); e != api.OK || !like(got, want) {
		t.Errorf("of its object and index: %s, %d, want %s", show(got), e, show(want))
	}
}

// wantNone is the error that Get is to answer, and Of, whatever it is asked for, with nothing beside it.
func wantNone(t *testing.T, what string, key api.Key, b []byte, want api.Errno) {
	t.Helper()
	if got, e := frame.Get(key, b); e != want || !reflect.DeepEqual(got, api.Frame{}) {
		t.Errorf("%s: %s, %d, want %d", what, show(got), e, want)
	}
	for _, index := range []int{0, 3, -1} {
		for _, object := range []api.Id{{}, thing} {
			if got, e := frame.Of(key, object, index, b); e != want || !reflect.DeepEqual(got, api.Frame{}) {
				t.Errorf("%s, of %x, %d: %s, %d, want %d", what, object, index, show(got), e, want)
			}
		}
	}
}

func wantOther(t *testing.T, object api.Id, index int, b []byte) {
	t.Helper()
	if got, e := frame.Of(mine, object, index, b); e != api.ErrBad || !reflect.DeepEqual(got, api.Frame{}) {
		t.Errorf("of %x, %d: %s, %d, want ErrBad", object, index, show(got), e)
	}
}

func wantName(t *testing.T, object api.Id, index int, want string) {
	t.Helper()
	if got := frame.Name(object, index); got != want {
		t.Errorf("name of %x, %d: %q, want %q", object, index, got, want)
	}
}

// P13.1: a frame's bytes by hand.
func TestPutKnown(t *testing.T) {
	f := api.Frame{Object: api.Id{0x10, 0, 0xff, 15: 0x80}, Index: 4, Count: 200, K: 80, Class: 32, Piece: []byte{0x5a}}
	text, err := hex.DecodeString("f1" + "1000ff00000000000000000000000080" + "04" + "c8" + "50" + "0020" + "01" + "5a")
	if err != nil {
		t.Fatal(err)
	}
	got, e := frame.Put(api.Key{1}, f)
	if e != api.OK || !bytes.Equal(got, tagged(api.Key{1}, text)) {
		t.Errorf("%x, %d", got, e)
	}
	wantGot(t, api.Key{1}, tagged(api.Key{1}, text), f)
}

// P13.1: the lengths of pieces go up to more than one byte tells, the classes up to two bytes.
func TestPutLengths(t *testing.T) {
	for _, c := range []struct {
		class, k int
		begin    string
	}{
		{32, 1, "002050"}, {32, 255, "002001"}, {256, 2, "010098"}, {1024, 5, "0400d7"}, {1024, 4, "0400fc010c"}, {512, 2, "0200fc0118"}, {1024, 1, "0400fc0430"}, {64, 1, "004070"}, {128, 1, "0080b0"},
	} {
		f := fitting(0, most, c.k, c.class)
		got := wantPut(t, mine, f)
		begin, err := hex.DecodeString(c.begin)
		if err != nil {
			t.Fatal(err)
		}
		if !bytes.HasPrefix(got[20:], begin) || !bytes.Equal(got[20+len(begin):len(got)-tagSize], f.Piece) {
			t.Errorf("class %d, k %d: %x", c.class, c.k, got[20:26])
		}
	}
}

// P13.1: the edges of each of a frame's fields.
func TestRightKnown(t *testing.T) {
	for _, c := range [][4]int{
		{0, 1, 1, 32}, {0, 2, 1, 32}, {1, 2, 1, 32}, {1, 2, 2, 32}, {0, 255, 1, 1024}, {254, 255, 255, 1024}, {254, 255, 1, 64}, {253, 254, 254, 512}, {3, 5, 2, 256}, {4, 5, 5, 128},
	} {
		wantRight(t, mine, fitting(c[0], c[1], c[2], c[3]))
	}
	piece := func(n int) []byte { return sample(n) }
	for _, f := range []api.Frame{
		{},
		{Index: -1, Count: 1, K: 1, Class: 32, Piece: piece(80)},
		{Index: 1, Count: 1, K: 1, Class: 32, Piece: piece(80)},
		{Index: 0, Count: 0, K: 0, Class: 32, Piece: piece(80)},
		{Index: 0, Count: 0, K: 1, Class: 32, Piece: piece(80)},
		{Index: 0, Count: 1, K: 0, Class: 32, Piece: piece(80)},
		{Index: 0, Count: 1, K: 2, Class: 32, Piece: piece(40)},
		{Index: 0, Count: -1, K: -1, Class: 32, Piece: piece(80)},
		{Index: 0, Count: 256, K: 1, Class: 32, Piece: piece(80)},
		{Index: 255, Count: 256, K: 255, Class: 32, Piece: piece(1)},
		{Index: 0, Count: 256, K: 256, Class: 32, Piece: piece(1)},
		{Index: 0, Count: 1, K: 1, Class: 0, Piece: piece(48)},
		{Index: 0, Count: 1, K: 1, Class: 16, Piece: piece(64)},
		{Index: 0, Count: 1, K: 1, Class: 31, Piece: piece(79)},
		{Index: 0, Count: 1, K: 1, Class: 33, Piece: piece(81)},
		{Index: 0, Count: 1, K: 1, Class: 2048, Piece: piece(2096)},
		{Index: 0, Count: 1, K: 1, Class: -48},
		{Index: 0, Count: 1, K: 1, Class: 32, Piece: piece(79)},
		{Index: 0, Count: 1, K: 1, Class: 32, Piece: piece(81)},
		{Index: 0, Count: 1, K: 1, Class: 32},
		{Index: 0, Count: 1, K: 1, Class: 32, Piece: piece(mostText + 1)},
		{Index: 0, Count: 255, K: 255, Class: 32, Piece: piece(0)},
		{Index: 0, Count: 255, K: 255, Class: 32, Piece: piece(2)},
	} {
		wantWrong(t, f)
	}
}

// P13.1, R1: numbers from the edges of what an int can be, all put together.
func TestRightReckoned(t *testing.T) {
	list := []int{math.MinInt, math.MinInt + 1, math.MinInt32, -256, -255, -1, 0, 1, 2, 3, 254, 255, 256, 257, 1 << 16, 1<<32 + 1, 1<<32 + 255, math.MaxInt - 1, math.MaxInt}
	for _, index := range list {
		for _, count := range list {
			for _, k := range list {
				for _, class := range []int{32, 256, 1024, 0, 33, 2048, 1<<16 + 32, 1<<32 + 32, -32, math.MinInt + 32, math.MaxInt} {
					f := fitting(index, count, k, class)
					if frame.Right(f) != rightBy(f) {
						t.Errorf("%s: right is %v", show(f), frame.Right(f))
					}
					f.Piece = make([]byte, 80)
					if got, e := frame.Put(mine, f); (e == api.OK) != rightBy(f) || (len(got) > 0) != rightBy(f) {
						t.Errorf("%s: %x, %d", show(f), got, e)
					}
				}
			}
		}
	}
}

// P13.1: every class that two bytes can tell, and more.
func TestEveryClass(t *testing.T) {
	for class := -100; class < 1<<16+1100; class++ {
		for _, n := range []int{(class + 48) % mostText, 80} {
			f := api.Frame{Count: 1, K: 1, Class: class, Piece: make([]byte, max(n, 0))}
			if frame.Right(f) != rightBy(f) {
				t.Errorf("%s: right is %v", show(f), frame.Right(f))
			}
		}
	}
}

// P13.1, P13.3: every k, every class: what is put is got, and no other length of the piece is right.
func TestEveryK(t *testing.T) {
	r := rand.New(rand.NewSource(13))
	for k := 1; k <= most; k++ {
		for _, class := range classList {
			count := k + r.Intn(most-k+1)
			f := fitting(r.Intn(count), count, k, class)
			wantRight(t, mine, f)
			for _, piece := range [][]byte{f.Piece[1:], append(bytes.Clone(f.Piece), 0), nil} {
				f.Piece = piece
				wantWrong(t, f)
			}
		}
	}
}

// P13.1, P13.3: every index of every count.
func TestEveryIndex(t *testing.T) {
	for count := 1; count <= most; count++ {
		f := fitting(0, count, 1+count/2, 32)
		for index := -3; index < count+3; index++ {
			f.Index = index
			if frame.Right(f) != (index >= 0 && index < count) {
				t.Errorf("%s: right is %v", show(f), frame.Right(f))
			}
		}
		for _, index := range []int{0, count / 2, count - 1} {
			f.Index = index
			wantRight(t, mine, f)
		}
		f.Index = count
		wantWrong(t, f)
	}
}

// P13.3: frames of any kind, by any keys.
func TestAnyFrames(t *testing.T) {
	r := rand.New(rand.NewSource(14))
	for range 1000 {
		var key api.Key
		r.Read(key[:])
		wantRight(t, key, someFrame(r))
	}
	f := fitting(1, 3, 2, 64)
	for _, piece := range [][]byte{make([]byte, 56), bytes.Repeat([]byte{0xff}, 56), bytes.Repeat([]byte{0xf1}, 56)} {
		for _, object := range []api.Id{{}, api.Id(bytes.Repeat([]byte{0xff}, 16)), api.Id(bytes.Repeat([]byte{0xf1}, 16))} {
			f.Piece, f.Object = piece, object
			wantRight(t, api.Key{}, f)
			wantRight(t, api.Key(bytes.Repeat([]byte{0xff}, 32)), f)
		}
	}
}

// P13.1: bytes too few for a tag are short, whatever they are.
func TestGetShort(t *testing.T) {
	b := wantPut(t, mine, fitting(3, 5, 2, 32))
	for n := range tagSize {
		for _, short := range [][]byte{b[:n], b[len(b)-n:], make([]byte, n), sample(n), tagged(mine, nil)[:n]} {
			wantNone(t, fmt.Sprint(n, " bytes"), mine, short, api.ErrShort)
		}
	}
	wantNone(t, "no bytes", mine, nil, api.ErrShort)
}

// P13.1: from 32 bytes on it is the tag that is wrong, if bytes are cut off or added at any place.
func TestGetCut(t *testing.T) {
	b := wantPut(t, mine, fitting(3, 5, 2, 32))
	for n := tagSize; n < len(b); n++ {
		wantNone(t, fmt.Sprint("the first ", n), mine, b[:n], api.ErrTag)
		wantNone(t, fmt.Sprint("the last ", n), mine, b[len(b)-n:], api.ErrTag)
	}
	for at := 0; at <= len(b); at++ {
		longer := append(append(bytes.Clone(b[:at]), 0x77), b[at:]...)
		wantNone(t, fmt.Sprint("a byte more at ", at), mine, longer, api.ErrTag)
	}
}

// P13.1: each bit of the bytes and each of the key bears on the tag.
func TestGetChanged(t *testing.T) {
	b := wantPut(t, mine, fitting(3, 5, 2, 32))
	for bit := range 8 * len(b) {
		b[bit/8] ^= 1 << (bit % 8)
		wantNone(t, fmt.Sprint("bit ", bit), mine, b, api.ErrTag)
		b[bit/8] ^= 1 << (bit % 8)
	}
	for bit := range 256 {
		key := mine
		key[bit/8] ^= 1 << (bit % 8)
		wantNone(t, fmt.Sprint("key bit ", bit), key, b, api.ErrTag)
	}
	wantGot(t, mine, b, fitting(3, 5, 2, 32))
}

// P13.1, R2: the tag is looked at ahead of all else: what isn't tagged rightly is nothing but that.
func TestTagFirst(t *testing.T) {
	right := textOf(fitting(3, 5, 2, 32))
	form := bytes.Clone(right)
	form[0] = 0
	for _, text := range [][]byte{nil, {0xf1}, right[:20], form, append(bytes.Clone(right), 1), make([]byte, 500)} {
		wantNone(t, "no tag", mine, append(bytes.Clone(text), make([]byte, tagSize)...), api.ErrTag)
		wantNone(t, "another key's tag", mine, tagged(api.Key{1}, text), api.ErrTag)
	}
	digest := sha256.Sum256(right)
	wantNone(t, "a digest", mine, append(bytes.Clone(right), digest[:]...), api.ErrTag)
	b := tagged(mine, right)
	wantNone(t, "the tag ahead", mine, append(bytes.Clone(b[len(right):]), right...), api.ErrTag)
}

// P13.1: a text that ends within is short at each place, the first byte right or not.
func TestTextShort(t *testing.T) {
	for _, f := range []api.Frame{fitting(3, 5, 2, 32), fitting(0, 1, 1, 1024), fitting(254, 255, 255, 32)} {
		text := textOf(f)
		for n := range text {
			wantNone(t, fmt.Sprint(n, " of ", len(text)), mine, tagged(mine, text[:n]), api.ErrShort)
			other := bytes.Clone(text[:n])
			if n > 0 {
				other[0] = 0xf2
			}
			wantNone(t, fmt.Sprint(n, " of ", len(text), " of another form"), mine, tagged(mine, other), api.ErrShort)
		}
	}
}

// withLength is the text of a frame in which length stands in the place of its piece's.
func withLength(f api.Frame, length ...byte) []byte {
	return append(append(bytes.Clone(textOf(f)[:ahead]), length...), f.Piece...)
}

// P13.1, R2: what may be wrong with the piece's length is told ahead of the first byte's form and of what is left.
func TestLengthWrong(t *testing.T) {
	f := fitting(3, 5, 2, 32)
	for _, c := range []struct {
		length []byte
		want   api.Errno
	}{
		{[]byte{0xff}, api.ErrForm},
		{[]byte{0xfb, 40}, api.ErrForm},
		{[]byte{0xfb, 250}, api.ErrForm},
		{[]byte{0xfc, 0, 40}, api.ErrForm},
		{[]byte{0xfd, 0, 1, 0}, api.ErrForm},
		{[]byte{0xfe, 0, 1, 0, 1}, api.ErrForm},
		{[]byte{0xfd, 1, 0, 1}, api.ErrRange},
		{[]byte{0xfd, 0xff, 0xff, 0xff}, api.ErrRange},
		{[]byte{0xfe, 1, 0, 0, 0}, api.ErrRange},
		{[]byte{0xfe, 0x7f, 0xff, 0xff, 0xff}, api.ErrRange},
		{[]byte{0xfe, 0xff, 0xff, 0xff, 0xff}, api.ErrRange},
		{[]byte{0xfd, 1, 0, 0}, api.ErrShort},
		{[]byte{0xfc, 0xff, 0xff}, api.ErrShort},
		{[]byte{0xfb, 251}, api.ErrShort},
		{[]byte{41}, api.ErrShort},
		{[]byte{250}, api.ErrShort},
		{[]byte{39}, api.ErrForm},
		{[]byte{0}, api.ErrForm},
	} {
		text := withLength(f, c.length...)
		wantNone(t, fmt.Sprintf("length %x", c.length), mine, tagged(mine, text), c.want)
		text[0], text[17] = 0, 5
		wantNone(t, fmt.Sprintf("length %x, another form", c.length), mine, tagged(mine, text), c.want)
	}
	for n := range 4 {
		for first := 0xfb + n; first <= 0xfe; first++ {
			text := append(bytes.Clone(textOf(f)[:ahead]), byte(first))
			text = append(text, make([]byte, n)...)
			wantNone(t, fmt.Sprintf("length %x and %d", first, n), mine, tagged(mine, text), api.ErrShort)
		}
	}
}

// P13.1: a text may be of 65536 bytes; no piece is right that is so long.
func TestLongestText(t *testing.T) {
	f := fitting(0, 1, 1, 1024)
	for _, n := range []int{1071, 1073, 65535, 65536} {
		f.Piece = sample(n)
		wantNone(t, fmt.Sprint("piece of ", n), mine, tagged(mine, textOf(f)), api.ErrArg)
		wantNone(t, fmt.Sprint("piece of ", n, " and more"), mine, tagged(mine, append(textOf(f), 0)), api.ErrForm)
	}
	f.Piece = sample(65537)
	wantNone(t, "too long a piece", mine, tagged(mine, textOf(f)), api.ErrRange)
	wantNone(t, "much that is left", mine, tagged(mine, append(textOf(fitting(0, 1, 1, 1024)), make([]byte, 1<<20)...)), api.ErrForm)
}

// P13.1, R2: the form, of a frame that is right but for it, and of one that isn't.
func TestFormWrong(t *testing.T) {
	right, other := fitting(3, 5, 2, 32), fitting(3, 5, 2, 32)
	other.Index = 5
	for _, f := range []api.Frame{right, other} {
		text := textOf(f)
		for first := range 256 {
			if first == 0xf1 {
				continue
			}
			text[0] = byte(first)
			wantNone(t, fmt.Sprintf("first byte %x", first), mine, tagged(mine, text), api.ErrForm)
		}
		wantNone(t, "two that are wrong", mine, tagged(mine, append(bytes.Clone(text), 0)), api.ErrForm)
		text[0] = 0xf1
		for _, rest := range [][]byte{{0}, {0xf1}, text, make([]byte, tagSize), tagged(mine, text)[len(text):]} {
			wantNone(t, "left", mine, tagged(mine, append(bytes.Clone(text), rest...)), api.ErrForm)
		}
	}
}

// P13.1: frames that aren't right, well told and rightly tagged.
func TestGetNotRight(t *testing.T) {
	for _, c := range [][4]int{
		{5, 5, 2, 32}, {255, 5, 2, 32}, {0, 0, 1, 32}, {0, 0, 0, 32}, {3, 5, 0, 32}, {3, 5, 6, 32}, {3, 5, 255, 32},
		{3, 5, 2, 0}, {3, 5, 2, 31}, {3, 5, 2, 33}, {3, 5, 2, 2048}, {3, 5, 2, 0x2000}, {3, 5, 2, 65535}, {255, 255, 255, 1024},
	} {
		f := fitting(c[0], c[1], c[2], c[3])
		wantNone(t, show(f), mine, tagged(mine, textOf(f)), api.ErrArg)
		f.Piece = sample(40)
		wantNone(t, show(f), mine, tagged(mine, textOf(f)), api.ErrArg)
	}
	for n := range 200 {
		f := fitting(3, 5, 2, 32)
		if f.Piece = sample(n); n != 40 {
			wantNone(t, show(f), mine, tagged(mine, textOf(f)), api.ErrArg)
		}
	}
}

// P13.1: every Index, Count and K that a byte can tell, near the edges of the others.
func TestEveryByte(t *testing.T) {
	for x := range 256 {
		for _, y := range []int{0, 1, 2, 127, 254, 255} {
			for _, c := range [][3]int{{x, y, 1}, {y, x, 1}, {0, x, y}, {0, y, x}, {y, 255, x}} {
				f := fitting(c[0], c[1], c[2], 32)
				b := tagged(mine, textOf(f))
				if rightBy(f) {
					wantGot(t, mine, b, f)
				} else {
					wantNone(t, show(f), mine, b, api.ErrArg)
				}
			}
		}
	}
}

// P13.2: another object's frame, by each bit, and one with another index.
func TestOf(t *testing.T) {
	for _, f := range []api.Frame{fitting(3, 5, 2, 32), fitting(0, 1, 1, 1024), fitting(254, 255, 3, 64)} {
		b := wantPut(t, mine, f)
		wantGot(t, mine, b, f)
		for bit := range 128 {
			object := f.Object
			object[bit/8] ^= 1 << (bit % 8)
			wantOther(t, object, f.Index, b)
			wantOther(t, object, f.Index+1, b)
		}
		wantOther(t, api.Id{}, f.Index, b)
		list := []int{-1, f.Index - 256, f.Index + 256, f.Index + 1<<16, f.Index - 1<<32, f.Index + 1<<32, math.MinInt, math.MinInt + f.Index, math.MaxInt, ^f.Index}
		for index := range 300 {
			list = append(list, index)
		}
		for _, index := range list {
			if index != f.Index {
				wantOther(t, f.Object, index, b)
			}
		}
	}
}

// P13.2: the chapter's example, and names by hand.
func TestNameKnown(t *testing.T) {
	wantName(t, api.Id{}, 12, "f00000000000000000000000000000000.12")
	wantName(t, api.Id{0xab, 1}, 7, "fab010000000000000000000000000000.7")
	wantName(t, thing, 0, "fab0102030405060708090a0b0c0d0eef.0")
	wantName(t, api.Id{0x0f, 0xf0, 0x9a, 0xa9, 15: 0xcd}, 254, "f0ff09aa90000000000000000000000cd.254")
	wantName(t, api.Id{}, 10, "f00000000000000000000000000000000.10")
	wantName(t, api.Id{}, -1, "f00000000000000000000000000000000.-1")
	wantName(t, api.Id{}, -120, "f00000000000000000000000000000000.-120")
	wantName(t, api.Id{}, math.MaxInt, "f00000000000000000000000000000000.9223372036854775807")
	wantName(t, api.Id{}, math.MinInt, "f00000000000000000000000000000000.-9223372036854775808")
}

// P13.2: every byte, at each place.
func TestNameReckoned(t *testing.T) {
	r := rand.New(rand.NewSource(15))
	for at := range 16 {
		for x := range 256 {
			var object api.Id
			r.Read(object[:])
			object[at] = byte(x)
			index := r.Intn(600) - 300
			wantName(t, object, index, fmt.Sprintf("f%x.%d", object[:], index))
		}
	}
}

// P13.3: unlike objects or indices have unlike names.
func TestNamesUnlike(t *testing.T) {
	met := map[string]bool{}
	objects := []api.Id{{}}
	for bit := range 128 {
		var one, all api.Id
		one[bit/8] = 1 << (bit % 8)
		for i := range all {
			all[i] = one[i] ^ 0xff
		}
		objects = append(objects, one, all)
	}
	for _, object := range objects {
		list := []int{math.MinInt, math.MaxInt}
		for index := -150; index < 300; index++ {
			list = append(list, index)
		}
		for _, index := range list {
			name := frame.Name(object, index)
			if met[name] {
				t.Errorf("%x, %d: %q was met", object, index, name)
			}
			met[name] = true
		}
	}
}

// roomy is the text, with room behind it that is filled.
func roomy(text []byte) []byte {
	return append(bytes.Clone(text), sample(60)...)[:len(text)]
}

// whole is all that the text's memory has, the spare room included.
func whole(text []byte) []byte {
	return text[:cap(text)]
}

func spoil(text []byte) {
	for i := range whole(text) {
		whole(text)[i] ^= 0xff
	}
}

// R4: what is handed in stays as it was, the room behind it included, where all is right and where it isn't.
func TestArgumentsStay(t *testing.T) {
	f := fitting(3, 5, 2, 32)
	f.Piece = roomy(f.Piece)
	keep := bytes.Clone(whole(f.Piece))
	b, _ := frame.Put(mine, f)
	f.Index = 9
	frame.Put(mine, f)
	frame.Right(f)
	if !bytes.Equal(whole(f.Piece), keep) {
		t.Error("the piece was changed")
	}
	text := textOf(fitting(3, 5, 2, 32))
	for _, b := range [][]byte{b, b[:20], b[:60], tagged(mine, text[:20]), tagged(mine, append(text, 1)), tagged(mine, text[1:])} {
		b = roomy(b)
		keep := bytes.Clone(whole(b))
		frame.Get(mine, b)
		frame.Of(mine, thing, 3, b)
		frame.Of(mine, thing, 4, b)
		if !bytes.Equal(whole(b), keep) {
			t.Errorf("%x was changed", keep[:len(b)])
		}
	}
}

// R4: what is answered shares no memory with what was handed in, nor with another answer.
func TestAnswersApart(t *testing.T) {
	for _, class := range classList {
		f := fitting(3, 5, 2, class)
		f.Piece = roomy(f.Piece)
		b := wantPut(t, mine, f)
		again := wantPut(t, mine, f)
		keep := bytes.Clone(whole(f.Piece))
		spoil(b)
		if !bytes.Equal(whole(f.Piece), keep) || !bytes.Equal(again, tagged(mine, textOf(f))) {
			t.Error("Put: its answer shares memory")
		}
		room := roomy(again)
		keep = bytes.Clone(whole(room))
		one, _ := frame.Get(mine, room)
		two, _ := frame.Of(mine, f.Object, f.Index, room)
		three, _ := frame.Get(mine, room)
		spoil(one.Piece)
		if !bytes.Equal(whole(room), keep) || !like(two, f) || !like(three, f) {
			t.Error("Get: its answer shares memory")
		}
		spoil(two.Piece)
		if !bytes.Equal(whole(room), keep) || !like(three, f) {
			t.Error("Of: its answer shares memory")
		}
		spoil(room)
		if !like(three, f) {
			t.Error("Get: its answer is what was handed in")
		}
	}
}

// R4: behind what is answered stands nothing of what was handed in.
func TestRoomEmpty(t *testing.T) {
	for k := 1; k <= most; k++ {
		f := fitting(0, most, k, 1024)
		b := wantPut(t, mine, f)
		got, _ := frame.Get(mine, b)
		for _, answer := range [][]byte{b, got.Piece} {
			for i, x := range whole(answer)[len(answer):] {
				if x != 0 {
					t.Errorf("k %d: behind the answer, at %d, stands %x", k, i, x)
				}
			}
		}
	}
}

// R3: a piece that is nil is one that is empty; neither is right.
func TestEmpty(t *testing.T) {
	for _, piece := range [][]byte{nil, {}, make([]byte, 0, 80)} {
		wantWrong(t, api.Frame{Count: 1, K: 1, Class: 32, Piece: piece})
	}
	wantNone(t, "a piece of no bytes", mine, tagged(mine, textOf(api.Frame{Count: 1, K: 1, Class: 32})), api.ErrArg)
	wantNone(t, "empty", mine, []byte{}, api.ErrShort)
	wantNone(t, "a tag of nothing", mine, tagged(mine, nil), api.ErrShort)
}

// R5: what others do beside them changes no answer, be it an error; they may have one piece, and the same bytes.
func TestSameAgain(t *testing.T) {
	right, wrong := fitting(3, 5, 2, 1024), fitting(5, 5, 2, 1024)
	b := tagged(mine, textOf(right))
	bad := tagged(mine, textOf(wrong))
	var all sync.WaitGroup
	for range 8 {
		all.Go(func() {
			for range 50 {
				if got, e := frame.Put(mine, right); e != api.OK || !bytes.Equal(got, b) {
					t.Error("Put: not the same again")
				}
				if got, e := frame.Put(mine, wrong); e != api.ErrArg || len(got) != 0 {
					t.Error("Put: not the same error again")
				}
				if got, e := frame.Get(mine, b); e != api.OK || !like(got, right) {
					t.Error("Get: not the same again")
				}
				if got, e := frame.Get(mine, bad); e != api.ErrArg || !like(got, api.Frame{}) {
					t.Error("Get: not the same error again")
				}
				if got, e := frame.Of(mine, thing, 4, b); e != api.ErrBad || !like(got, api.Frame{}) {
					t.Error("Of: not the same error again")
				}
				if frame.Name(thing, 3) != "fab0102030405060708090a0b0c0d0eef.3" {
					t.Error("Name: not the same again")
				}
			}
		})
	}
	all.Wait()
}

// wantTold is what the bytes, as they are, and what they are with their tag, are to be taken for.
func wantTold(t *testing.T, key api.Key, text []byte) {
	t.Helper()
	b := tagged(key, text)
	want, e := toldBy(text)
	if e != api.OK {
		wantNone(t, "any text", key, b, e)
	} else {
		wantGot(t, key, b, want)
		if again := wantPut(t, key, want); !bytes.Equal(again, b) {
			t.Errorf("%x, got and put, is %x", b, again)
		}
	}
	// Bytes that weren't tagged, as a liar's are.
	if len(text) < tagSize {
		wantNone(t, "any bytes", key, text, api.ErrShort)
	} else if end := len(text) - tagSize; !bytes.Equal(tagged(key, text[:end]), text) {
		wantNone(t, "any bytes", key, text, api.ErrTag)
	}
}

// P13.1, P13.2: right texts, in which bytes were changed, added and cut off, and tagged all the same.
func TestAnyTexts(t *testing.T) {
	r := rand.New(rand.NewSource(16))
	for range 6000 {
		text := textOf(someFrame(r))
		for range r.Intn(3) {
			at := r.Intn(min(len(text), ahead+4))
			switch r.Intn(4) {
			case 0:
				text[at] = byte(r.Intn(256))
			case 1:
				text[at] += byte(r.Intn(3)) - 1
			case 2:
				text = append(text[:at:at], append(sample(1+r.Intn(3)), text[at:]...)...)
			default:
				text = text[:len(text)-min(len(text)-1, r.Intn(4))]
			}
		}
		wantTold(t, mine, text)
	}
}

func FuzzGet(f *testing.F) {
	f.Add([]byte{}, byte(0))
	f.Add(textOf(fitting(3, 5, 2, 32)), byte(1))
	f.Add(textOf(fitting(254, 255, 255, 32)), byte(2))
	f.Add(textOf(fitting(0, 4, 4, 1024)), byte(3))
	f.Add(textOf(fitting(5, 5, 2, 32)), byte(4))
	f.Add(withLength(fitting(3, 5, 2, 32), 0xfd, 1, 0, 1), byte(5))
	f.Add(withLength(fitting(3, 5, 2, 32), 0xfb, 40), byte(6))
	f.Add(tagged(api.Key{7}, textOf(fitting(0, 1, 1, 32))), byte(7))
	f.Fuzz(func(t *testing.T, text []byte, x byte) {
		wantTold(t, api.Key{x}, text)
	})
}
