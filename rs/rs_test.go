package rs_test

import (
	"bytes"
	"math"
	"math/bits"
	"math/rand"
	"slices"
	"sync"
	"testing"

	"scrinium/api"
	"scrinium/gf"
	"scrinium/rs"
)

// product is that of x and y in the field, by the long way: as polynomials, whose remainder by 11D is left.
func product(x, y byte) byte {
	p := 0
	for i := range 8 {
		if y>>i&1 == 1 {
			p ^= int(x) << i
		}
	}
	for i := 14; i >= 8; i-- {
		if p>>i&1 == 1 {
			p ^= 0x11d << (i - 8)
		}
	}
	return byte(p)
}

// inverse is that of the byte x, sought among all bytes.
func inverse(x byte) byte {
	for y := range 256 {
		if product(x, byte(y)) == 1 {
			return byte(y)
		}
	}
	return 0
}

var (
	products = sync.OnceValue(func() *[256][256]byte {
		all := &[256][256]byte{}
		for x := range all {
			for y := range all {
				all[x][y] = product(byte(x), byte(y))
			}
		}
		return all
	})
	inverses = sync.OnceValue(func() *[256]byte {
		all := &[256]byte{}
		for x := range all {
			all[x] = inverse(byte(x))
		}
		return all
	})
)

// rowOf is row i of a code with that k.
func rowOf(k, i int) []byte {
	row := make([]byte, k)
	if i < k {
		row[i] = 1
		return row
	}
	for j := range row {
		// It is row i - k of the Cauchy matrix, whose bytes are the inverses of i - k + k ^ j.
		row[j] = inverses()[i^j]
	}
	return row
}

// encoded are the n pieces of the slices, byte by byte.
func encoded(l [][]byte, n int) [][]byte {
	out := make([][]byte, n)
	for i := range out {
		out[i] = make([]byte, len(l[0]))
		for j, x := range rowOf(len(l), i) {
			for place, y := range l[j] {
				out[i][place] ^= products()[x][y]
			}
		}
	}
	return out
}

func like(a, b [][]byte) bool {
	return slices.EqualFunc(a, b, bytes.Equal)
}

func samples(r *rand.Rand, count, n int) [][]byte {
	l := make([][]byte, count)
	for i := range l {
		l[i] = make([]byte, n)
		r.Read(l[i])
	}
	return l
}

func newCode(t *testing.T, k, n int) *rs.Code {
	t.Helper()
	c, e := rs.New(gf.Make(), k, n)
	if e != api.OK || c == nil {
		t.Fatalf("code of %d and %d: error %d", k, n, e)
	}
	return c
}

// chosen are the pieces of these numbers.
func chosen(pieces [][]byte, at []int) [][]byte {
	var out [][]byte
	for _, i := range at {
		out = append(out, pieces[i])
	}
	return out
}

// numbers are those whose bits are set, rising.
func numbers(set uint) []int {
	var out []int
	for i := range bits.Len(set) {
		if set>>i&1 == 1 {
			out = append(out, i)
		}
	}
	return out
}

func upTo(n int) []int {
	var out []int
	for i := range n {
		out = append(out, i)
	}
	return out
}

// orders calls what is to be done with the numbers in each order.
func orders(at []int, from int, do func([]int)) {
	if from == len(at) {
		do(at)
		return
	}
	for i := from; i < len(at); i++ {
		at[from], at[i] = at[i], at[from]
		orders(at, from+1, do)
		at[from], at[i] = at[i], at[from]
	}
}

func wantTexts(t *testing.T, what string, got [][]byte, e api.Errno, want [][]byte) {
	t.Helper()
	if e != api.OK || !like(got, want) {
		t.Errorf("%s: %x, error %d, want %x", what, got, e, want)
	}
}

func wantText(t *testing.T, what string, got []byte, e api.Errno, want []byte) {
	t.Helper()
	if e != api.OK || !bytes.Equal(got, want) {
		t.Errorf("%s: %x, error %d, want %x", what, got, e, want)
	}
}

func wantNoTexts(t *testing.T, what string, got [][]byte, e, want api.Errno) {
	t.Helper()
	if e != want || len(got) != 0 {
		t.Errorf("%s: %x, error %d, want error %d", what, got, e, want)
	}
}

func wantNoText(t *testing.T, what string, got []byte, e, want api.Errno) {
	t.Helper()
	if e != want || len(got) != 0 {
		t.Errorf("%s: %x, error %d, want error %d", what, got, e, want)
	}
}

// far are numbers that no code has.
func far(n int) []int {
	return []int{math.MinInt, math.MinInt + 1, math.MinInt32, -256, -255, -2, -1, n, n + 1, n + 255, n + 256, 1 << 16, 1 << 31, 1 << 32, 1<<32 + 1, math.MaxInt - 1, math.MaxInt}
}

// P9.1, P9.2: the chapter's example, and others that are told by hand.
func TestKnown(t *testing.T) {
	c := newCode(t, 2, 3)
	for i, want := range [][]byte{{1, 0}, {0, 1}, {0x8e, 0xf4}} {
		if got := c.Row(i); !bytes.Equal(got, want) {
			t.Errorf("row %d: %x, want %x", i, got, want)
		}
	}
	l := [][]byte{{1}, {2}}
	want := [][]byte{{1}, {2}, {0x7b}}
	got, e := c.Encode(l)
	wantTexts(t, "pieces", got, e, want)
	for _, at := range [][]int{{0, 1}, {1, 0}, {0, 2}, {2, 0}, {1, 2}, {2, 1}} {
		got, e := c.Decode(at, chosen(want, at))
		wantTexts(t, "slices", got, e, l)
		for i := range want {
			p, e := c.Again(at, chosen(want, at), i)
			wantText(t, "a piece again", p, e, want[i])
		}
	}
	c = newCode(t, 1, 4)
	got, e = c.Encode([][]byte{{1, 2, 0}})
	wantTexts(t, "pieces of one slice", got, e, [][]byte{{1, 2, 0}, {1, 2, 0}, {0x8e, 1, 0}, {0xf4, 0xf5, 0}})
}

// P9.1: there is a code of 1 up to k up to n up to 255, and none of other numbers.
func TestNewEdges(t *testing.T) {
	f := gf.Make()
	l := []int{math.MinInt, math.MinInt32, -256, -255, 1 << 16, 1 << 32, 1<<32 + 1, math.MaxInt - 1, math.MaxInt, 511, 512, 513}
	for x := -2; x <= 259; x++ {
		l = append(l, x)
	}
	for _, k := range l {
		for _, n := range l {
			if k > 8 && k < 247 && k != 128 && n != k && n != k-1 {
				continue
			}
			c, e := rs.New(f, k, n)
			if 1 <= k && k <= n && n <= 255 {
				if e != api.OK || c == nil || len(c.Row(n-1)) != k || len(c.Row(n)) != 0 {
					t.Errorf("%d and %d: error %d, or another code", k, n, e)
				}
			} else if e != api.ErrArg || c != nil {
				t.Errorf("%d and %d: error %d, want error %d and no code", k, n, e, api.ErrArg)
			}
		}
	}
}

// shapes are all small codes, and those at the edges.
func shapes() [][2]int {
	l := [][2]int{{1, 254}, {1, 255}, {2, 255}, {3, 17}, {8, 16}, {16, 16}, {100, 200}, {127, 255}, {128, 255}, {128, 129}, {129, 255}, {253, 255}, {254, 254}, {254, 255}, {255, 255}}
	for n := 1; n <= 9; n++ {
		for k := 1; k <= n; k++ {
			l = append(l, [2]int{k, n})
		}
	}
	return l
}

// P9.1: the rows are those of the unit, and behind them those of the Cauchy matrix, reckoned anew; there are no others.
func TestRowReckoned(t *testing.T) {
	for _, s := range shapes() {
		c := newCode(t, s[0], s[1])
		for i := range s[1] {
			if got := c.Row(i); !bytes.Equal(got, rowOf(s[0], i)) {
				t.Errorf("%d: row %d is %x, want %x", s, i, got, rowOf(s[0], i))
			}
		}
		for _, i := range far(s[1]) {
			if got := c.Row(i); len(got) != 0 {
				t.Errorf("%d: a row %d: %x", s, i, got)
			}
		}
	}
}

// P9.1: all pieces, reckoned anew, of texts of any length; the first are the slices; and each by itself.
func TestEncodeReckoned(t *testing.T) {
	r := rand.New(rand.NewSource(90))
	for _, s := range shapes() {
		c := newCode(t, s[0], s[1])
		for _, length := range []int{0, 1, 2, 9} {
			l := samples(r, s[0], length)
			want := encoded(l, s[1])
			got, e := c.Encode(l)
			wantTexts(t, "pieces", got, e, want)
			if e == api.OK && !like(got[:s[0]], l) {
				t.Errorf("%d: the first pieces aren't the slices", s)
			}
			for i := range s[1] {
				p, e := c.Piece(l, i)
				wantText(t, "piece", p, e, want[i])
			}
		}
	}
	l := samples(r, 3, 65536)
	c := newCode(t, 3, 5)
	got, e := c.Encode(l)
	if e != api.OK || !like(got, encoded(l, 5)) {
		t.Errorf("long slices: other pieces, error %d", e)
	}
}

// misshapen are lists that aren't k texts of one length.
func misshapen(k int) [][][]byte {
	var l [][][]byte
	for _, count := range []int{0, 1, k - 1, k + 1, k + 2, 2 * k, 255, 256, 257, 1000} {
		if count != k {
			l = append(l, blank(count, 2), blank(count, 0))
		}
	}
	for odd := 0; odd < k && k > 1; odd += 1 + k/10 {
		for _, length := range []int{0, 1, 3, 300} {
			m := blank(k, 2)
			m[odd] = make([]byte, length)
			l = append(l, m)
		}
	}
	return l
}

func blank(count, length int) [][]byte {
	l := make([][]byte, count)
	for i := range l {
		l[i] = make([]byte, length)
	}
	return l
}

// P9.1, R2: no pieces where the slices aren't k, or not all of one length; that comes ahead of a number that no piece has.
func TestEncodeWrong(t *testing.T) {
	for _, s := range shapes() {
		c := newCode(t, s[0], s[1])
		for _, l := range misshapen(s[0]) {
			got, e := c.Encode(l)
			wantNoTexts(t, "misshapen slices", got, e, api.ErrArg)
			for _, i := range append(far(s[1]), 0, s[0]-1, s[1]-1) {
				p, e := c.Piece(l, i)
				wantNoText(t, "piece of misshapen slices", p, e, api.ErrArg)
			}
		}
		for _, i := range far(s[1]) {
			p, e := c.Piece(blank(s[0], 4), i)
			wantNoText(t, "a piece that there isn't", p, e, api.ErrRange)
		}
	}
}

// P9.1, P9.2, R3: slices and pieces of no bytes, nil or empty.
func TestNoBytes(t *testing.T) {
	for _, s := range shapes() {
		c := newCode(t, s[0], s[1])
		l := make([][]byte, s[0])
		l[s[0]/2] = []byte{}
		got, e := c.Encode(l)
		wantTexts(t, "pieces of no bytes", got, e, blank(s[1], 0))
		p, e := c.Piece(l, s[1]-1)
		wantText(t, "piece of no bytes", p, e, nil)
		at := upTo(s[1])[s[1]-s[0]:]
		got, e = c.Decode(at, l)
		wantTexts(t, "slices of no bytes", got, e, blank(s[0], 0))
		p, e = c.Again(at, l, 0)
		wantText(t, "again of no bytes", p, e, nil)
	}
}

// wantTold holds what these pieces tell against the slices, and each piece told again.
func wantTold(t *testing.T, c *rs.Code, at []int, pieces, l [][]byte) {
	t.Helper()
	got, e := c.Decode(at, chosen(pieces, at))
	if e != api.OK || !like(got, l) {
		t.Errorf("%d slices from %d: error %d, or others", len(l), at, e)
	}
	for want := range pieces {
		p, e := c.Again(at, chosen(pieces, at), want)
		if e != api.OK || !bytes.Equal(p, pieces[want]) {
			t.Errorf("%d slices, piece %d from %d: error %d, or another", len(l), want, at, e)
		}
	}
}

// P9.2, P9.3: any k pieces tell the slices and each piece, in any order, and so do more of them: each choice of small codes.
func TestAnyPieces(t *testing.T) {
	r := rand.New(rand.NewSource(92))
	for n := 1; n <= 8; n++ {
		for k := 1; k <= n; k++ {
			c := newCode(t, k, n)
			l := samples(r, k, 3)
			pieces := encoded(l, n)
			for set := range uint(1) << n {
				at := numbers(set)
				if len(at) < k {
					continue
				}
				wantTold(t, c, at, pieces, l)
				slices.Reverse(at)
				wantTold(t, c, at, pieces, l)
				if n <= 5 {
					orders(at, 0, func(at []int) { wantTold(t, c, at, pieces, l) })
				}
			}
		}
	}
}

// P9.2, P9.3: k pieces of great codes, any, the last ones, and the first ones turned round.
func TestGreatCodes(t *testing.T) {
	r := rand.New(rand.NewSource(93))
	for _, s := range [][2]int{{1, 255}, {2, 255}, {16, 255}, {40, 100}, {100, 255}, {127, 254}, {128, 255}, {200, 255}, {254, 255}, {255, 255}} {
		c := newCode(t, s[0], s[1])
		l := samples(r, s[0], 2)
		pieces := encoded(l, s[1])
		turned := upTo(s[0])
		slices.Reverse(turned)
		for _, at := range [][]int{r.Perm(s[1])[:s[0]], r.Perm(s[1]), upTo(s[1])[s[1]-s[0]:], turned} {
			got, e := c.Decode(at, chosen(pieces, at))
			if e != api.OK || !like(got, l) {
				t.Errorf("%d from %d: error %d, or other slices", s, at, e)
			}
			for _, want := range []int{0, s[0] - 1, s[1] - 1, at[0], r.Intn(s[1])} {
				p, e := c.Again(at, chosen(pieces, at), want)
				wantText(t, "a piece again", p, e, pieces[want])
			}
		}
	}
}

// P9.2: what stands behind the first k pieces tells nothing, and each of the first k does: the slices are those that have just these pieces.
func TestFirstTell(t *testing.T) {
	r := rand.New(rand.NewSource(94))
	for _, s := range [][2]int{{1, 2}, {1, 5}, {2, 3}, {2, 7}, {3, 7}, {4, 5}, {5, 9}, {16, 40}, {60, 255}} {
		c := newCode(t, s[0], s[1])
		for range 20 {
			l := samples(r, s[0], 2)
			pieces := encoded(l, s[1])
			at := r.Perm(s[1])
			given := chosen(pieces, at)
			copy(given[s[0]:], samples(r, s[1]-s[0], 2))
			got, e := c.Decode(at, given)
			wantTexts(t, "other pieces behind", got, e, l)
			for _, want := range []int{at[0], at[s[0]], at[s[1]-1]} {
				p, e := c.Again(at, given, want)
				wantText(t, "again, other pieces behind", p, e, pieces[want])
			}
			given = samples(r, s[1], 2)
			got, e = c.Decode(at, given)
			if e != api.OK || len(got) != s[0] {
				t.Fatalf("%d: %d slices, error %d", s, len(got), e)
			}
			told := encoded(got, s[1])
			wantTexts(t, "any bytes ahead", chosen(told, at[:s[0]]), e, given[:s[0]])
			p, e := c.Again(at, given, at[s[0]])
			wantText(t, "again from any bytes", p, e, told[at[s[0]]])
		}
	}
}

// wantWrong asks for the slices and for a piece by what is wrong, and for a piece that there isn't, which comes first.
func wantWrong(t *testing.T, what string, c *rs.Code, n int, at []int, pieces [][]byte, want api.Errno) {
	t.Helper()
	got, e := c.Decode(at, pieces)
	wantNoTexts(t, what, got, e, want)
	for _, i := range []int{0, n - 1} {
		p, e := c.Again(at, pieces, i)
		wantNoText(t, what+", again", p, e, want)
	}
	for _, i := range far(n) {
		p, e := c.Again(at, pieces, i)
		wantNoText(t, what+", again one that there isn't", p, e, api.ErrRange)
	}
}

// P9.2, R2: each error, wherever in the lists its cause stands, behind the first k too; and of several the first.
func TestDecodeWrong(t *testing.T) {
	for _, s := range [][2]int{{1, 1}, {1, 2}, {1, 255}, {2, 3}, {3, 7}, {5, 5}, {4, 9}, {128, 255}, {255, 255}} {
		k, n := s[0], s[1]
		c := newCode(t, k, n)
		all := upTo(n)
		for _, count := range []int{0, 1, k - 1, k, n - 1, n + 1, n + 2, 300} {
			if count != n {
				wantWrong(t, "not as many numbers as pieces", c, n, all, blank(count, 2), api.ErrArg)
			}
		}
		wantWrong(t, "no numbers", c, n, nil, blank(k, 2), api.ErrArg)
		for place := range n {
			if place > 8 && place < n-2 && place != k && place != k-1 {
				continue
			}
			uneven := blank(n, 2)
			uneven[place] = make([]byte, 1+2*(place%2))
			if n > 1 {
				wantWrong(t, "not of one length", c, n, all, uneven, api.ErrArg)
			}
			for _, i := range far(n) {
				at := slices.Clone(all)
				at[place] = i
				wantWrong(t, "a number that there isn't", c, n, at, blank(n, 2), api.ErrRange)
				if n > 1 {
					wantWrong(t, "not of one length, nor in range", c, n, at, uneven, api.ErrArg)
				}
				wantWrong(t, "not as many, nor in range", c, n, at, blank(n+1, 2), api.ErrArg)
			}
			for _, other := range []int{0, n / 2, n - 1} {
				if other != place {
					at := slices.Clone(all)
					at[place] = at[other]
					wantWrong(t, "a number twice", c, n, at, blank(n, 2), api.ErrRange)
					wantWrong(t, "a number twice, not of one length", c, n, at, uneven, api.ErrArg)
				}
			}
		}
		for count := range k {
			wantWrong(t, "too few", c, n, all[:count], blank(count, 2), api.ErrFew)
			wantWrong(t, "too few, and the last ones", c, n, all[n-count:], blank(count, 2), api.ErrFew)
		}
	}
}

// P9.2, R2: a number twice, or of no piece, comes ahead of too few; lists of more numbers than there are have one twice.
func TestDecodeWrongNumbers(t *testing.T) {
	c := newCode(t, 4, 6)
	for _, at := range [][]int{{6}, {-1}, {2, 2}, {5, 5}, {0, 1, 0}, {0, 1, 6}, {6, 6}, {math.MaxInt, math.MinInt}} {
		wantWrong(t, "too few, and wrong", c, 6, at, blank(len(at), 3), api.ErrRange)
	}
	wantWrong(t, "too few, not of one length", c, 6, []int{0, 1}, [][]byte{{1}, {}}, api.ErrArg)
	wantWrong(t, "too few, twice, not of one length", c, 6, []int{1, 1}, [][]byte{{1}, {1, 2}}, api.ErrArg)
	for _, count := range []int{7, 255, 256, 257, 1 << 16} {
		at := make([]int, count)
		for i := range at {
			at[i] = i % 6
		}
		wantWrong(t, "all numbers again", c, 6, at, blank(count, 1), api.ErrRange)
		c := newCode(t, 1, 255)
		for i := range at {
			at[i] = i % 256
		}
		if count > 255 {
			wantWrong(t, "numbers up to 255", c, 255, at, blank(count, 1), api.ErrRange)
		}
	}
}

// P9.3, P9.1, R1, R2: a nil Code answers ErrNil, or nothing, at right arguments and wrong ones alike; so do nil tables.
func TestNil(t *testing.T) {
	var c *rs.Code
	for _, l := range [][][]byte{nil, {}, {{1}}, {{1}, {2}}, {{1}, {2, 3}}, {nil}} {
		got, e := c.Encode(l)
		wantNoTexts(t, "pieces of a nil code", got, e, api.ErrNil)
		for _, i := range append(far(1), 0) {
			p, e := c.Piece(l, i)
			wantNoText(t, "piece of a nil code", p, e, api.ErrNil)
			for _, at := range [][]int{nil, {0}, {0, 1}, {0, 0}, {-1}} {
				got, e := c.Decode(at, l)
				wantNoTexts(t, "slices of a nil code", got, e, api.ErrNil)
				p, e := c.Again(at, l, i)
				wantNoText(t, "again of a nil code", p, e, api.ErrNil)
			}
		}
	}
	for _, i := range append(far(1), 0) {
		if got := c.Row(i); len(got) != 0 {
			t.Errorf("row %d of a nil code: %x", i, got)
		}
		for _, n := range append(far(1), 0, 1, 255) {
			if c, e := rs.New(nil, i, n); e != api.ErrNil || c != nil {
				t.Errorf("%d and %d by nil tables: error %d", i, n, e)
			}
		}
	}
	if c, e := rs.New(nil, 2, 3); e != api.ErrNil || c != nil {
		t.Errorf("nil tables: error %d", e)
	}
}

// roomy are texts with spare room, and so has their list.
func roomy(r *rand.Rand, count, n int) [][]byte {
	l := samples(r, count+3, n+5)
	for i := range l {
		l[i] = l[i][:n]
	}
	return l[:count]
}

// room is a copy of all of l, spare room included.
func room(l [][]byte) [][]byte {
	all := slices.Clone(l[:cap(l)])
	for i, text := range all {
		all[i] = bytes.Clone(text[:cap(text)])
	}
	return all
}

// R4: neither what is handed in nor its spare room is changed, be it an error or not.
func TestArgumentsStay(t *testing.T) {
	r := rand.New(rand.NewSource(95))
	for n := 1; n < 9; n++ {
		for k := 1; k <= n; k++ {
			c := newCode(t, k, n)
			for _, count := range []int{k, n, k - 1, n + 1} {
				l, at := roomy(r, count, 3), append(r.Perm(n), 9, 8, 7)
				if count <= n {
					at = at[:count]
				}
				before, numbers := room(l), slices.Clone(at[:cap(at)])
				c.Encode(l)
				c.Piece(l, n-1)
				c.Decode(at, l)
				c.Again(at, l, 0)
				c.Again(at, l, n-1)
				if !like(room(l), before) || !slices.Equal(at[:cap(at)], numbers) {
					t.Errorf("%d and %d, %d texts: an argument was changed", k, n, count)
				}
			}
		}
	}
}

// spoil changes all of l, text by text, spare room included.
func spoil(l [][]byte) {
	for _, text := range l[:cap(l)] {
		text = text[:cap(text)]
		for i := range text {
			text[i] ^= 0xff
		}
	}
	clear(l[:cap(l)])
}

// alone makes a list of one answer.
func alone(text []byte, e api.Errno) ([][]byte, api.Errno) {
	return [][]byte{text}, e
}

// R4: an answer shares no memory with an argument, the code or an earlier answer, not even where it is like one of them; nor do texts of one answer share any.
func TestAnswersStay(t *testing.T) {
	r := rand.New(rand.NewSource(96))
	for _, s := range [][2]int{{1, 1}, {1, 3}, {2, 2}, {2, 5}, {5, 9}} {
		c := newCode(t, s[0], s[1])
		at := upTo(s[0])
		last := s[1] - 1
		for name, call := range map[string]func(l [][]byte) ([][]byte, api.Errno){
			"row":       func(l [][]byte) ([][]byte, api.Errno) { return alone(c.Row(0), api.OK) },
			"last row":  func(l [][]byte) ([][]byte, api.Errno) { return alone(c.Row(last), api.OK) },
			"pieces":    func(l [][]byte) ([][]byte, api.Errno) { return c.Encode(l) },
			"piece":     func(l [][]byte) ([][]byte, api.Errno) { return alone(c.Piece(l, 0)) },
			"last":      func(l [][]byte) ([][]byte, api.Errno) { return alone(c.Piece(l, last)) },
			"slices":    func(l [][]byte) ([][]byte, api.Errno) { return c.Decode(at, l) },
			"again":     func(l [][]byte) ([][]byte, api.Errno) { return alone(c.Again(at, l, 0)) },
			"the last":  func(l [][]byte) ([][]byte, api.Errno) { return alone(c.Again(at, l, last)) },
			"from last": func(l [][]byte) ([][]byte, api.Errno) { return c.Decode(upTo(s[1])[s[1]-s[0]:], l) },
		} {
			l := samples(r, s[0], 3)
			before := room(l)
			first, e := call(l)
			want := make([][]byte, len(first))
			for i, text := range first {
				want[i] = bytes.Clone(text)
			}
			second, e2 := call(l)
			spoil(second)
			wantTexts(t, name+", an answer spoilt", first, max(e, e2), want)
			wantTexts(t, name+", an argument with an answer spoilt", l, api.OK, before)
			third, e := call(l)
			spoil(l)
			wantTexts(t, name+", an argument spoilt", third, e, want)
			spoil(first)
			wantTexts(t, name+", an earlier answer spoilt", third, e, want)
			for i := range third {
				_ = append(third[i], bytes.Repeat([]byte{0xaa}, 100)...)
				_ = append(third[i], 0xbb)
			}
			wantTexts(t, name+", a text grown", third, e, want)
		}
	}
}

// R2, R5: the same again, whatever was asked and wrong in between, by other tables, and from many sides at once.
func TestSameAgain(t *testing.T) {
	r := rand.New(rand.NewSource(97))
	codes := []*rs.Code{newCode(t, 5, 11), newCode(t, 5, 11)}
	l := samples(r, 5, 7)
	pieces := encoded(l, 11)
	var asked sync.WaitGroup
	for i := range 8 {
		asked.Add(1)
		go func() {
			defer asked.Done()
			mine := codes[i%2]
			r := rand.New(rand.NewSource(int64(i)))
			for range 40 {
				at := r.Perm(11)[:5]
				mine.Encode(l[1:])
				mine.Decode([]int{1, 1, 2, 3, 4}, pieces[:5])
				mine.Again(at, pieces[:5], 11)
				mine.Again(at, samples(r, 5, 7), 10)
				got, e := mine.Encode(l)
				wantTexts(t, "pieces", got, e, pieces)
				wantTold(t, mine, at, pieces, l)
				if !bytes.Equal(mine.Row(at[0]), rowOf(5, at[0])) {
					t.Error("another row")
				}
			}
		}()
	}
	asked.Wait()
}

// wrongness is the error that Decode has to answer, told by going through the chapter's words.
func wrongness(k, n int, at []int, pieces [][]byte) api.Errno {
	if len(at) != len(pieces) {
		return api.ErrArg
	}
	lengths, met := map[int]int{}, map[int]int{}
	for i := range at {
		lengths[len(pieces[i])]++
		met[at[i]]++
	}
	if len(lengths) > 1 {
		return api.ErrArg
	}
	for i, times := range met {
		if i < 0 || i >= n || times > 1 {
			return api.ErrRange
		}
	}
	if len(at) < k {
		return api.ErrFew
	}
	return api.OK
}

func FuzzCode(f *testing.F) {
	f.Add(2, 3, []byte{3, 1}, []byte{0x7b, 1}, 1)
	f.Add(3, 7, []byte{7, 6, 5, 4}, []byte("abcdefgh"), 2)
	f.Add(3, 7, []byte{7, 6, 7}, []byte("abcdef"), 2)
	f.Add(3, 7, []byte{7, 6, 8}, []byte("abcdef"), 2)
	f.Add(3, 7, []byte{7, 6, 0}, []byte("abcdef"), 2)
	f.Add(3, 7, []byte{7, 6, 5}, []byte("abcde"), 2)
	f.Add(3, 7, []byte{7, 6}, []byte("abcd"), 2)
	f.Add(255, 255, []byte{1}, []byte{}, 255)
	f.Add(0, 0, []byte{}, []byte{}, 0)
	f.Fuzz(func(t *testing.T, k, n int, numbers, text []byte, size int) {
		c, e := rs.New(gf.Make(), k, n)
		if right := k >= 1 && k <= n && n <= 255; right != (e == api.OK) || right != (c != nil) {
			t.Fatalf("%d and %d: error %d", k, n, e)
		}
		if c == nil || size < 1 {
			return
		}
		var at []int
		for _, x := range numbers {
			at = append(at, int(x)-1)
		}
		pieces := slices.Collect(slices.Chunk(text, size))
		got, e := c.Decode(at, pieces)
		if want := wrongness(k, n, at, pieces); e != want {
			t.Fatalf("%d and %d, from %d: error %d, want %d", k, n, at, e, want)
		}
		if e != api.OK {
			wantNoTexts(t, "slices", got, e, e)
			return
		}
		told := encoded(got, n)
		wantTexts(t, "the first pieces", chosen(told, at[:k]), e, pieces[:k])
		for i := range told {
			p, e := c.Again(at, pieces, i)
			wantText(t, "again", p, e, told[i])
		}
	})
}
