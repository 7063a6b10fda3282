package gf_test

import (
	"bytes"
	"math"
	"math/big"
	"math/rand"
	"slices"
	"sync"
	"testing"

	"scrinium/api"
	"scrinium/gf"
)

// product is that of x and y in the field, by the long way: as polynomials, whose remainder by 11D is left.
func product(x, y byte) byte {
	p := 0
	for i := range 8 {
		if y>>i&1 == 1 {
			p ^= int(x) << i
		}
	}
	for i := 14; i >= 8; i-- {
		if p>>i&1 == 1 {
			p ^= 0x11d << (i - 8)
		}
	}
	return byte(p)
}

// inverse is that of x, sought among all bytes.
func inverse(x byte) byte {
	for y := range 256 {
		if product(x, byte(y)) == 1 {
			return byte(y)
		}
	}
	return 0
}

// power is the n-th of the generator: counted modulo 255 by numbers of any size, then multiplied step by step.
func power(n int) byte {
	steps := new(big.Int).Mod(big.NewInt(int64(n)), big.NewInt(255)).Int64()
	p := byte(1)
	for range steps {
		p = product(p, 2)
	}
	return p
}

func scaled(c byte, l []byte) []byte {
	var out []byte
	for _, x := range l {
		out = append(out, product(c, x))
	}
	return out
}

func summed(coeffs []byte, l [][]byte) []byte {
	var out []byte
	for i, text := range l {
		for j, x := range text {
			if i == 0 {
				out = append(out, 0)
			}
			out[j] ^= product(coeffs[i], x)
		}
	}
	return out
}

func sample(r *rand.Rand, n int) []byte {
	b := make([]byte, n)
	r.Read(b)
	return b
}

func samples(r *rand.Rand, count, n int) [][]byte {
	l := make([][]byte, count)
	for i := range l {
		l[i] = sample(r, n)
	}
	return l
}

func allBytes() []byte {
	b := make([]byte, 256)
	for i := range b {
		b[i] = byte(i)
	}
	return b
}

func wantSum(t *testing.T, f *gf.Tables, coeffs []byte, l [][]byte, want []byte) {
	t.Helper()
	if got, e := f.Sum(coeffs, l); e != api.OK || !bytes.Equal(got, want) {
		t.Errorf("coefficients %x, texts %x: %x, error %d, want %x", coeffs, l, got, e, want)
	}
}

func wantNoSum(t *testing.T, f *gf.Tables, coeffs []byte, l [][]byte, want api.Errno) {
	t.Helper()
	if got, e := f.Sum(coeffs, l); e != want || len(got) != 0 {
		t.Errorf("coefficients %x, texts %x: %x, error %d, want error %d", coeffs, l, got, e, want)
	}
}

// P7.1: the chapter's examples, and others that are told by hand.
func TestKnown(t *testing.T) {
	f := gf.Make()
	for _, c := range []struct{ a, b, want byte }{
		{0x80, 2, 0x1d}, {2, 0x80, 0x1d}, {0x80, 0x80, 0x13}, {3, 3, 5}, {0xff, 0xff, 0xe2},
		{0, 0, 0}, {0, 0xff, 0}, {0xff, 0, 0}, {1, 0xff, 0xff}, {0x8e, 2, 1},
	} {
		if got := f.Mul(c.a, c.b); got != c.want {
			t.Errorf("%x by %x: %x, want %x", c.a, c.b, got, c.want)
		}
	}
	for n, want := range map[int]byte{0: 1, 1: 2, 7: 0x80, 8: 0x1d, 254: 0x8e, 255: 1, -1: 0x8e, -255: 1, -254: 2, -247: 0x1d} {
		if got := f.Exp(n); got != want {
			t.Errorf("power %d: %x, want %x", n, got, want)
		}
	}
	if x, e := f.Inv(2); x != 0x8e || e != api.OK {
		t.Errorf("inverse of 2: %x, error %d", x, e)
	}
	if x, e := f.Div(0x1d, 2); x != 0x80 || e != api.OK {
		t.Errorf("1D by 2: %x, error %d", x, e)
	}
}

// P7.1: each product, reckoned anew.
func TestMulReckoned(t *testing.T) {
	f := gf.Make()
	for _, a := range allBytes() {
		for _, b := range allBytes() {
			if got := f.Mul(a, b); got != product(a, b) {
				t.Errorf("%x by %x: %x, want %x", a, b, got, product(a, b))
			}
		}
	}
}

// P7.1: each inverse and each quotient, reckoned anew; of 0 there is none, and by 0 nothing is divided.
func TestDivReckoned(t *testing.T) {
	f := gf.Make()
	for _, b := range allBytes() {
		inv, wantError := inverse(b), api.OK
		if b == 0 {
			wantError = api.ErrArg
		}
		if got, e := f.Inv(b); got != inv || e != wantError {
			t.Errorf("inverse of %x: %x, error %d, want %x, error %d", b, got, e, inv, wantError)
		}
		for _, a := range allBytes() {
			if got, e := f.Div(a, b); got != product(a, inv) || e != wantError {
				t.Errorf("%x through %x: %x, error %d, want %x, error %d", a, b, got, e, product(a, inv), wantError)
			}
		}
	}
}

// P7.1: powers around each multiple of 255 that is near, around those of all sizes, and at both ends of the numbers.
func TestExpReckoned(t *testing.T) {
	f := gf.Make()
	ns := []int{math.MinInt, math.MinInt + 1, math.MaxInt, math.MaxInt - 1, math.MinInt32, math.MaxInt32}
	for n := -1100; n <= 1100; n++ {
		ns = append(ns, n)
	}
	for bit := range 63 {
		for n := 1<<bit - 2; n <= 1<<bit+2; n++ {
			ns = append(ns, n, -n)
		}
	}
	for n := math.MaxInt / 255 * 255; n > math.MaxInt-600; n-- {
		ns = append(ns, n, -n)
	}
	for _, n := range ns {
		if got := f.Exp(n); got != power(n) {
			t.Errorf("power %d: %x, want %x", n, got, power(n))
		}
	}
}

// Words: each byte but 0 is one power of the generator, from the 0th to the 254th.
func TestGenerator(t *testing.T) {
	f := gf.Make()
	var met [256]int
	for n := range 255 {
		met[f.Exp(n)]++
	}
	for x, times := range met {
		if (times == 1) != (x != 0) {
			t.Errorf("byte %x: %d powers", x, times)
		}
	}
}

// P7.1: powers are multiplied by adding their numbers, a negative one counted backwards.
func TestPowersMultiplied(t *testing.T) {
	f := gf.Make()
	for m := -300; m <= 300; m++ {
		for n := -300; n <= 300; n++ {
			if got := f.Mul(f.Exp(m), f.Exp(n)); got != f.Exp(m+n) {
				t.Fatalf("powers %d and %d: %x, want %x", m, n, got, f.Exp(m+n))
			}
		}
		if inv, e := f.Inv(f.Exp(m)); inv != f.Exp(-m) || e != api.OK {
			t.Errorf("inverse of power %d: %x, error %d", m, inv, e)
		}
	}
}

// P7.3: it is a field: 1 changes nothing, 0 takes all away, and products hang neither on their order nor on how they are put together, and of a sum are the sums of products.
func TestField(t *testing.T) {
	f := gf.Make()
	for _, a := range allBytes() {
		if f.Mul(a, 1) != a || f.Mul(1, a) != a || f.Mul(a, 0) != 0 || f.Mul(0, a) != 0 {
			t.Errorf("%x by 1 or by 0", a)
		}
		for _, b := range allBytes() {
			ab := f.Mul(a, b)
			if ab != f.Mul(b, a) || ab == 0 && a != 0 && b != 0 {
				t.Errorf("%x by %x: %x", a, b, ab)
			}
			for _, c := range allBytes() {
				if f.Mul(ab, c) != f.Mul(a, f.Mul(b, c)) || f.Mul(a, b^c) != ab^f.Mul(a, c) {
					t.Fatalf("%x, %x and %x", a, b, c)
				}
			}
		}
	}
}

// P7.3: what is divided and multiplied again is what it was.
func TestDividedAgain(t *testing.T) {
	f := gf.Make()
	for _, a := range allBytes() {
		for _, b := range allBytes()[1:] {
			q, e := f.Div(a, b)
			back, e2 := f.Div(f.Mul(a, b), b)
			if e != api.OK || e2 != api.OK || f.Mul(q, b) != a || back != a {
				t.Errorf("%x and %x: %x and %x, errors %d and %d", a, b, q, back, e, e2)
			}
		}
	}
}

// P7.2: each byte times each coefficient, and texts of all lengths.
func TestScale(t *testing.T) {
	f := gf.Make()
	r := rand.New(rand.NewSource(72))
	for _, c := range allBytes() {
		for _, l := range [][]byte{nil, {}, {0}, {1}, allBytes(), sample(r, int(c)), make([]byte, 20)} {
			if got := f.Scale(c, l); !bytes.Equal(got, scaled(c, l)) {
				t.Errorf("%x times %x: %x, want %x", c, l, got, scaled(c, l))
			}
		}
	}
	long := sample(r, api.MaxBytes+1)
	if !bytes.Equal(f.Scale(0x1d, long), scaled(0x1d, long)) {
		t.Error("a long text, scaled wrongly")
	}
}

// P7.2: sums told by hand; those of no texts, and of texts without a byte, are nothing.
func TestSumKnown(t *testing.T) {
	f := gf.Make()
	wantSum(t, f, []byte{1, 2}, [][]byte{{1, 2}, {0x80, 3}}, []byte{1 ^ 0x1d, 2 ^ 6})
	wantSum(t, f, []byte{1, 1}, [][]byte{{1, 2, 3}, {1, 2, 3}}, []byte{0, 0, 0})
	wantSum(t, f, []byte{0, 0}, [][]byte{{1, 2, 3}, {4, 5, 6}}, []byte{0, 0, 0})
	wantSum(t, f, []byte{0}, [][]byte{{9}}, []byte{0})
	wantSum(t, f, []byte{0x80}, [][]byte{{2, 0, 0x80}}, []byte{0x1d, 0, 0x13})
	wantSum(t, f, nil, nil, nil)
	wantSum(t, f, []byte{}, [][]byte{}, nil)
	wantSum(t, f, []byte{7}, [][]byte{nil}, nil)
	wantSum(t, f, []byte{7, 8, 9}, [][]byte{nil, {}, nil}, nil)
}

// P7.2: sums of few and many texts, short and long, reckoned anew.
func TestSumReckoned(t *testing.T) {
	f := gf.Make()
	r := rand.New(rand.NewSource(73))
	for _, count := range []int{1, 2, 3, 16, 254, 255, 256, 300} {
		for _, n := range []int{0, 1, 2, 31, 256} {
			coeffs, l := sample(r, count), samples(r, count, n)
			wantSum(t, f, coeffs, l, summed(coeffs, l))
		}
	}
	coeffs, l := sample(r, 3), samples(r, 3, api.MaxBytes+1)
	wantSum(t, f, coeffs, l, summed(coeffs, l))
}

// P7.2: one text may stand there more than once.
func TestSumOfOneText(t *testing.T) {
	f := gf.Make()
	l := allBytes()
	wantSum(t, f, []byte{3, 5, 9}, [][]byte{l, l, l}, scaled(3^5^9, l))
}

// P7.2, P7.3: a sum is that of the texts, each scaled; and it hangs not on their order.
func TestSumOfScaled(t *testing.T) {
	f := gf.Make()
	r := rand.New(rand.NewSource(74))
	for count := range 20 {
		coeffs, l := sample(r, count), samples(r, count, 40)
		turned, turnedCoeffs := make([][]byte, count), make([]byte, count)
		ones, each := bytes.Repeat([]byte{1}, count), make([][]byte, count)
		for i, j := range r.Perm(count) {
			turned[i], turnedCoeffs[i] = l[j], coeffs[j]
			each[i] = f.Scale(coeffs[i], l[i])
		}
		want := summed(coeffs, l)
		wantSum(t, f, turnedCoeffs, turned, want)
		wantSum(t, f, ones, each, want)
	}
}

// P7.2: as many texts as coefficients, and all of one length, or it is ErrArg, wherever the odd one stands.
func TestSumWrong(t *testing.T) {
	f := gf.Make()
	wantNoSum(t, f, []byte{1}, nil, api.ErrArg)
	wantNoSum(t, f, nil, [][]byte{{1}}, api.ErrArg)
	wantNoSum(t, f, nil, [][]byte{nil}, api.ErrArg)
	wantNoSum(t, f, []byte{1, 2}, [][]byte{{1}}, api.ErrArg)
	wantNoSum(t, f, []byte{1}, [][]byte{{1}, {2}}, api.ErrArg)
	wantNoSum(t, f, []byte{0}, [][]byte{{1}, {2, 3}}, api.ErrArg)
	wantNoSum(t, f, []byte{0, 0}, [][]byte{{1}, nil}, api.ErrArg)
	wantNoSum(t, f, []byte{0, 0}, [][]byte{nil, {1}}, api.ErrArg)
	r := rand.New(rand.NewSource(75))
	for odd := range 6 {
		for _, n := range []int{0, 1, 8, 10, 300} {
			l := samples(r, 6, 9)
			l[odd] = sample(r, n)
			wantNoSum(t, f, sample(r, 6), l, api.ErrArg)
		}
	}
}

// P7.3, R1: nil tables answer 0, ErrNil, nothing, right arguments and wrong ones alike.
func TestNil(t *testing.T) {
	var f *gf.Tables
	for _, a := range allBytes() {
		inv, e := f.Inv(a)
		if f.Mul(a, 1) != 0 || f.Mul(3, a) != 0 || inv != 0 || e != api.ErrNil {
			t.Errorf("%x: inverse %x, error %d", a, inv, e)
		}
		for _, b := range []byte{0, 1, 2, 0xff} {
			if q, e := f.Div(a, b); q != 0 || e != api.ErrNil {
				t.Errorf("%x through %x: %x, error %d", a, b, q, e)
			}
		}
		if l := f.Scale(a, []byte{1, 2}); len(l) != 0 {
			t.Errorf("times %x: %x", a, l)
		}
	}
	for _, n := range []int{math.MinInt, -255, -1, 0, 1, 255, math.MaxInt} {
		if x := f.Exp(n); x != 0 {
			t.Errorf("power %d: %x", n, x)
		}
	}
	wantNoSum(t, f, []byte{1}, [][]byte{{1}}, api.ErrNil)
	wantNoSum(t, f, nil, nil, api.ErrNil)
	wantNoSum(t, f, []byte{1}, nil, api.ErrNil)
	wantNoSum(t, f, []byte{1, 1}, [][]byte{{1}, {1, 2}}, api.ErrNil)
}

// R4: neither what is handed in nor its spare room is changed, be it an error or not.
func TestArgumentsStay(t *testing.T) {
	f := gf.Make()
	r := rand.New(rand.NewSource(76))
	for n := range 40 {
		room, rooms := sample(r, n+20), samples(r, 7, 2*n+9)
		before, roomsBefore := bytes.Clone(room), bytes.Join(rooms, nil)
		texts := make([][]byte, 7)
		for i := range texts {
			texts[i] = rooms[i][:n]
		}
		heads := slices.Clone(texts)
		f.Scale(byte(n), room[:n])
		f.Sum(room[:5], texts[:5])
		f.Sum(room[:6], texts[:5])
		texts[4] = rooms[4][:n+1]
		f.Sum(room[:5], texts[:5])
		texts[4] = rooms[4][:n]
		if !bytes.Equal(room, before) || !bytes.Equal(bytes.Join(rooms, nil), roomsBefore) {
			t.Errorf("%d bytes: an argument was changed", n)
		}
		for i := range texts {
			if len(texts[i]) != len(heads[i]) || n > 0 && &texts[i][0] != &heads[i][0] {
				t.Errorf("%d bytes: text %d was exchanged", n, i)
			}
		}
	}
}

// spoil changes all of b, its spare room included.
func spoil(b []byte) {
	b = b[:cap(b)]
	for i := range b {
		b[i] ^= 0xff
	}
}

// R4: an answer shares no memory with an argument or an earlier answer, not even where it is like one of them.
func TestAnswersStay(t *testing.T) {
	f := gf.Make()
	r := rand.New(rand.NewSource(77))
	for n := range 40 {
		for _, c := range []byte{0, 1, 2} {
			text := sample(r, n)
			want := scaled(c, text)
			first, second := f.Scale(c, text), f.Scale(c, text)
			sum, e := f.Sum([]byte{c}, [][]byte{text})
			again, e2 := f.Sum([]byte{c}, [][]byte{text})
			spoil(second)
			spoil(again)
			before := bytes.Clone(text)
			spoil(text)
			if e != api.OK || e2 != api.OK || !bytes.Equal(first, want) || !bytes.Equal(sum, want) {
				t.Errorf("%d bytes by %d: an answer was changed", n, c)
			}
			spoil(first)
			spoil(sum)
			spoil(text)
			if !bytes.Equal(text, before) {
				t.Errorf("%d bytes by %d: a change of an answer is to be seen in the text", n, c)
			}
		}
	}
}

// R5: what was asked ahead of it, errors among it, or is asked beside it, or of which tables, changes no answer.
func TestSameAgain(t *testing.T) {
	tables := []*gf.Tables{gf.Make(), gf.Make(), gf.Make()}
	r := rand.New(rand.NewSource(78))
	var asked sync.WaitGroup
	for range 60 {
		coeffs, l, a, b, n := sample(r, 4), samples(r, 4, 30), byte(r.Intn(256)), byte(1+r.Intn(255)), r.Int()-r.Int()
		sum, inv, p := summed(coeffs, l), inverse(b), power(n)
		asked.Add(1)
		go func() {
			defer asked.Done()
			for _, f := range append(tables, gf.Make()) {
				f.Inv(0)
				f.Div(a, 0)
				f.Sum(coeffs, nil)
				got, e := f.Sum(coeffs, l)
				q, e2 := f.Div(a, b)
				if e != api.OK || e2 != api.OK || !bytes.Equal(got, sum) || q != product(a, inv) || f.Exp(n) != p {
					t.Errorf("%x, %x, %d: another answer", a, b, n)
				}
			}
		}()
	}
	asked.Wait()
}

func FuzzSum(f *testing.F) {
	f.Add([]byte{}, []byte{}, 0, 0)
	f.Add([]byte{1, 2}, []byte{1, 2, 0x80, 3}, 2, -1)
	f.Add([]byte{1, 2}, []byte{1, 2, 0x80}, 2, math.MinInt)
	f.Fuzz(func(t *testing.T, coeffs, b []byte, n, exponent int) {
		tables := gf.Make()
		if tables.Exp(exponent) != power(exponent) {
			t.Errorf("power %d: %x", exponent, tables.Exp(exponent))
		}
		var l [][]byte
		for n > 0 && len(b) > 0 {
			cut := min(n, len(b))
			l = append(l, b[:cut])
			b = b[cut:]
		}
		if len(l) != len(coeffs) || len(l) > 0 && len(l[len(l)-1]) != len(l[0]) {
			wantNoSum(t, tables, coeffs, l, api.ErrArg)
			return
		}
		wantSum(t, tables, coeffs, l, summed(coeffs, l))
	})
}
