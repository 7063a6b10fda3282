package aont_test

import (
	"bytes"
	"crypto/aes"
	"crypto/cipher"
	"crypto/sha256"
	"encoding/hex"
	"math"
	"math/rand"
	"sync"
	"testing"

	"scrinium/aont"
	"scrinium/api"
)

const (
	mostSecret = 1000
	mostSlices = 255
	behind     = 16 + 32 // what a package has beside the class
)

var classList = []int{32, 64, 128, 256, 512, 1024}

func sample(n int) []byte {
	b := make([]byte, n)
	rand.New(rand.NewSource(int64(n) + 11)).Read(b)
	return b
}

func someKey(r *rand.Rand) (k api.Key) {
	r.Read(k[:])
	return k
}

// classOf tells it by the words of the document; 0, if a secret of n bytes has none.
func classOf(n int) int {
	for _, class := range classList {
		if n >= 0 && n <= mostSecret && class >= n+2 {
			return class
		}
	}
	return 0
}

// sizeOf is the least length that, k times, has room for the package.
func sizeOf(class, k int) int {
	size := 1
	for size*k < class+behind {
		size++
	}
	return size
}

func insideOf(n int, class int, secret []byte) []byte {
	in := []byte{byte(n / 256), byte(n % 256)}
	in = append(in, secret...)
	for len(in) < class+16 {
		in = append(in, 0)
	}
	return in
}

// hidden is what another program makes of the inside.
func hidden(inside []byte, key api.Key) []byte {
	c, err := aes.NewCipher(key[:])
	if err != nil {
		panic(err)
	}
	out := make([]byte, len(inside))
	cipher.NewCTR(c, make([]byte, 16)).XORKeyStream(out, inside)
	return out
}

// packageOf is the package of an inside, right or not, by key.
func packageOf(inside []byte, key api.Key) []byte {
	out := hidden(inside, key)
	digest := sha256.Sum256(out)
	for i := range key {
		out = append(out, key[i]^digest[i])
	}
	return out
}

// slicesOf is the package, filled up and cut.
func slicesOf(pack []byte, class, k int) [][]byte {
	size := sizeOf(class, k)
	whole := make([]byte, k*size)
	copy(whole, pack)
	out := make([][]byte, k)
	for i := range out {
		out[i] = bytes.Clone(whole[i*size : (i+1)*size])
	}
	return out
}

// packed is what Pack is to answer.
func packed(k int, secret []byte, key api.Key) [][]byte {
	class := classOf(len(secret))
	return slicesOf(packageOf(insideOf(len(secret), class, secret), key), class, k)
}

func like(a, b [][]byte) bool {
	if len(a) != len(b) {
		return false
	}
	for i := range a {
		if !bytes.Equal(a[i], b[i]) {
			return false
		}
	}
	return true
}

func wantPack(t *testing.T, k int, secret []byte, key api.Key) [][]byte {
	t.Helper()
	got, e := aont.Pack(k, secret, key)
	if e != api.OK || !like(got, packed(k, secret, key)) {
		t.Errorf("%d slices of %d bytes: %x, %d", k, len(secret), got, e)
	}
	return got
}

func wantKey(t *testing.T, class int, l [][]byte, want api.Key) {
	t.Helper()
	if got, e := aont.Key(class, l); got != want || e != api.OK {
		t.Errorf("class %d, %d slices: key %x, %d, want %x", class, len(l), got, e, want)
	}
}

func wantSecret(t *testing.T, class int, l [][]byte, want []byte) {
	t.Helper()
	if got, e := aont.Unpack(class, l); e != api.OK || !bytes.Equal(got, want) {
		t.Errorf("class %d, %d slices: %x, %d, want %x", class, len(l), got, e, want)
	}
}

// wantNeither is the error that Key and Unpack are to answer, with nothing beside it.
func wantNeither(t *testing.T, what string, class int, l [][]byte, want api.Errno) {
	t.Helper()
	if got, e := aont.Key(class, l); got != (api.Key{}) || e != want {
		t.Errorf("%s: class %d, %d slices: key %x, %d, want %d", what, class, len(l), got, e, want)
	}
	if got, e := aont.Unpack(class, l); len(got) != 0 || e != want {
		t.Errorf("%s: class %d, %d slices: %x, %d, want %d", what, class, len(l), got, e, want)
	}
}

// wantBad is a package that tells key, but no secret.
func wantBad(t *testing.T, what string, class int, l [][]byte, key api.Key) {
	t.Helper()
	wantKey(t, class, l, key)
	if got, e := aont.Unpack(class, l); len(got) != 0 || e != api.ErrBad {
		t.Errorf("%s: class %d, %d slices: %x, %d, want ErrBad", what, class, len(l), got, e)
	}
}

func wantClass(t *testing.T, n, want int, wantE api.Errno) {
	t.Helper()
	if got, e := aont.Class(n); got != want || e != wantE {
		t.Errorf("%d bytes: class %d, %d, want %d, %d", n, got, e, want, wantE)
	}
}

func wantSize(t *testing.T, class, k, want int, wantE api.Errno) {
	t.Helper()
	if got, e := aont.Size(class, k); got != want || e != wantE {
		t.Errorf("class %d, %d slices: size %d, %d, want %d, %d", class, k, got, e, want, wantE)
	}
}

func noClasses() []int {
	list := []int{math.MinInt, math.MinInt + 32, math.MinInt32, -1024, -32, -1, 2048, 4096, 65536, math.MaxInt32, 1 << 32, 1<<32 + 32, math.MaxInt - 1024, math.MaxInt}
	for class := range 1100 {
		right := false
		for _, c := range classList {
			right = right || c == class
		}
		if !right {
			list = append(list, class)
		}
	}
	return list
}

func wrongCounts() []int {
	return []int{0, -1, -255, 256, 257, 511, 1 << 16, 1<<32 + 1, math.MinInt, math.MinInt + 1, math.MaxInt, math.MaxInt - 1}
}

// P11.1: the chapter's examples, and the edges of each class.
func TestClassKnown(t *testing.T) {
	for _, c := range [][2]int{
		{0, 32}, {1, 32}, {29, 32}, {30, 32}, {31, 64}, {32, 64}, {61, 64}, {62, 64}, {63, 128}, {126, 128}, {127, 256},
		{254, 256}, {255, 512}, {510, 512}, {511, 1024}, {999, 1024}, {1000, 1024},
	} {
		wantClass(t, c[0], c[1], api.OK)
	}
}

// P11.1: every length that a secret may have, and those that it may not.
func TestClassReckoned(t *testing.T) {
	for n := range mostSecret + 1 {
		wantClass(t, n, classOf(n), api.OK)
	}
	for _, n := range []int{-1, -2, -32, 1001, 1002, 1021, 1022, 1023, 1024, 65536, 1 << 32, math.MinInt, math.MinInt + 1, math.MaxInt, math.MaxInt - 1, math.MaxInt - 2} {
		wantClass(t, n, 0, api.ErrRange)
	}
}

// P11.1: the chapter's example, and the edges of filling.
func TestSizeKnown(t *testing.T) {
	for _, c := range [][3]int{
		{32, 3, 27}, {32, 1, 80}, {32, 2, 40}, {32, 79, 2}, {32, 80, 1}, {32, 81, 1}, {32, 255, 1}, {64, 1, 112}, {64, 111, 2}, {64, 112, 1},
		{1024, 1, 1072}, {1024, 2, 536}, {1024, 3, 358}, {1024, 254, 5}, {1024, 255, 5}, {512, 255, 3}, {256, 255, 2}, {128, 255, 1},
	} {
		wantSize(t, c[0], c[1], c[2], api.OK)
	}
}

// P11.1: every class and every count of slices.
func TestSizeReckoned(t *testing.T) {
	for _, class := range classList {
		for k := 1; k <= mostSlices; k++ {
			wantSize(t, class, k, sizeOf(class, k), api.OK)
		}
		for _, k := range wrongCounts() {
			wantSize(t, class, k, 0, api.ErrArg)
		}
	}
	for _, class := range noClasses() {
		for _, k := range []int{1, 3, 255} {
			wantSize(t, class, k, 0, api.ErrArg)
		}
		for _, k := range wrongCounts() {
			wantSize(t, class, k, 0, api.ErrArg)
		}
	}
}

// P11.2: a package by hand: by the key of noughts, whose stream begins with AES-256's block of noughts.
func TestPackKnown(t *testing.T) {
	l, e := aont.Pack(3, []byte("hello"), api.Key{})
	if e != api.OK || len(l) != 3 {
		t.Fatal(l, e)
	}
	stream, err := hex.DecodeString("dc95c078a2408989ad48a21492842087")
	if err != nil {
		t.Fatal(err)
	}
	inside := []byte{0, 5, 'h', 'e', 'l', 'l', 'o', 0, 0, 0, 0, 0, 0, 0, 0, 0}
	for i := range inside {
		if got := l[0][i] ^ stream[i]; got != inside[i] {
			t.Errorf("byte %d of the inside: %x, want %x", i, got, inside[i])
		}
	}
	whole := bytes.Join(l, nil)
	digest := sha256.Sum256(whole[:48])
	if len(whole) != 81 || !bytes.Equal(whole[48:80], digest[:]) || whole[80] != 0 {
		t.Errorf("%x: by a key of noughts the last part is the digest, and the filling is 0", whole)
	}
}

// P11.2, P11.3: secrets of every length that may be.
func TestEveryLength(t *testing.T) {
	r := rand.New(rand.NewSource(11))
	for n := range mostSecret + 1 {
		secret, key, k := sample(n), someKey(r), 1+r.Intn(mostSlices)
		l := wantPack(t, k, secret, key)
		wantKey(t, classOf(n), l, key)
		wantSecret(t, classOf(n), l, secret)
	}
}

// P11.2, P11.3: every count of slices, for each class.
func TestEveryCount(t *testing.T) {
	r := rand.New(rand.NewSource(12))
	for k := 1; k <= mostSlices; k++ {
		for _, n := range []int{0, 30, 31, 100, 254, 400, 1000} {
			secret, key := sample(n), someKey(r)
			l := wantPack(t, k, secret, key)
			wantKey(t, classOf(n), l, key)
			wantSecret(t, classOf(n), l, secret)
		}
	}
}

// P11.2, P11.3: how long a secret is, is told by its length alone: noughts at its end are its own.
func TestNoughtsWithin(t *testing.T) {
	for n := range mostSecret + 1 {
		secret := make([]byte, n)
		l := wantPack(t, 5, secret, api.Key{1})
		wantSecret(t, classOf(n), l, secret)
	}
	for _, secret := range [][]byte{{0, 0, 7}, {7, 0, 0}, bytes.Repeat([]byte{0xff}, 30), bytes.Repeat([]byte{0xff}, 1000)} {
		wantSecret(t, classOf(len(secret)), wantPack(t, 7, secret, api.Key{0xff}), secret)
	}
}

// P11.2, R2: Pack's errors, the secret's ahead of the count's.
func TestPackWrong(t *testing.T) {
	wantNone := func(k int, secret []byte, want api.Errno) {
		t.Helper()
		if got, e := aont.Pack(k, secret, api.Key{1}); len(got) != 0 || e != want {
			t.Errorf("%d slices of %d bytes: %x, %d, want %d", k, len(secret), got, e, want)
		}
	}
	long := [][]byte{sample(1001), sample(1002), sample(1022), sample(1023), sample(1024), sample(65535), sample(65536), sample(65536 + 5), sample(1 << 20)}
	for _, k := range wrongCounts() {
		for _, secret := range [][]byte{nil, {}, {1}, sample(30), sample(1000)} {
			wantNone(k, secret, api.ErrArg)
		}
		for _, secret := range long {
			wantNone(k, secret, api.ErrRange)
		}
	}
	for _, secret := range long {
		wantNone(1, secret, api.ErrRange)
		wantNone(255, secret, api.ErrRange)
	}
}

// P11.2: Key tells what stands there, whatever the inside and the filling are.
func TestKeyOfAnything(t *testing.T) {
	r := rand.New(rand.NewSource(13))
	for _, class := range classList {
		for range 60 {
			k := 1 + r.Intn(mostSlices)
			l := make([][]byte, k)
			for i := range l {
				l[i] = make([]byte, sizeOf(class, k))
				r.Read(l[i])
			}
			whole := bytes.Join(l, nil)
			want := api.Key(sha256.Sum256(whole[:class+16]))
			for i := range want {
				want[i] ^= whole[class+16+i]
			}
			wantBad(t, "any bytes", class, l, want)
		}
	}
}

// P11.2, R1, R2: what may not be handed in to Key and Unpack: the class and the count are looked at ahead of the slices.
func TestSlicesWrong(t *testing.T) {
	for _, class := range classList {
		for _, k := range []int{1, 2, 3, 16, 80, 81, 255} {
			l := slicesOf(packageOf(insideOf(0, class, nil), api.Key{2}), class, k)
			for i := range l {
				whole := l[i]
				for _, other := range [][]byte{nil, {}, whole[:len(whole)-1], append(bytes.Clone(whole), 0), sample(2000)} {
					l[i] = other
					wantNeither(t, "a slice of another length", class, l, api.ErrForm)
				}
				l[i] = whole
			}
			wantNeither(t, "no class", class+1, l, api.ErrArg)
			wantNeither(t, "no class", class-1, l, api.ErrArg)
			wantNeither(t, "slices of no bytes", class, make([][]byte, k), api.ErrForm)
			wantNeither(t, "no class, slices of no bytes", class*3, make([][]byte, k), api.ErrArg)
		}
		wantNeither(t, "no slices", class, nil, api.ErrArg)
		wantNeither(t, "no slices", class, [][]byte{}, api.ErrArg)
		for _, k := range []int{256, 257, 512, 1072, 70000} {
			l := make([][]byte, k)
			wantNeither(t, "too many slices of no bytes", class, l, api.ErrArg)
			for i := range l {
				l[i] = []byte{0}
			}
			wantNeither(t, "too many slices", class, l, api.ErrArg)
		}
	}
	for _, class := range noClasses() {
		wantNeither(t, "no class", class, [][]byte{make([]byte, 80)}, api.ErrArg)
		wantNeither(t, "no class, no slices", class, nil, api.ErrArg)
	}
}

// P11.2: slices of another class have another length, unless their count makes it the same.
func TestOtherClass(t *testing.T) {
	for _, mine := range classList {
		for k := 1; k <= mostSlices; k++ {
			l := slicesOf(packageOf(insideOf(3, mine, []byte("abc")), api.Key{3}), mine, k)
			for _, class := range classList {
				if class == mine {
					continue
				}
				if sizeOf(class, k) != sizeOf(mine, k) {
					wantNeither(t, "another class's", class, l, api.ErrForm)
				} else if got, e := aont.Unpack(class, l); len(got) != 0 || e != api.ErrBad {
					t.Errorf("class %d as %d, %d slices: %x, %d", mine, class, k, got, e)
				}
			}
		}
	}
}

// P11.2: a filling that isn't all 0, at each of its bytes; it has no part in the key.
func TestFillingWrong(t *testing.T) {
	for _, class := range classList {
		n := class/2 - 1
		for _, k := range []int{3, 7, 11, 81, 113, 200, 254, 255} {
			key := api.Key{byte(k)}
			l := slicesOf(packageOf(insideOf(n, class, sample(n)), key), class, k)
			wantSecret(t, class, l, sample(n))
			size := len(l[0])
			for at := class + behind; at < k*size; at++ {
				bit := byte(1) << (at % 8)
				l[at/size][at%size] ^= bit
				wantBad(t, "filling", class, l, key)
				l[at/size][at%size] ^= bit
			}
		}
	}
}

// sealed is a package of the inside, in slices.
func sealed(inside []byte, class int) ([][]byte, api.Key) {
	key := api.Key(sha256.Sum256(inside))
	return slicesOf(packageOf(inside, key), class, 1+int(key[0])%20), key
}

// P11.2: a canary that isn't all 0, at each of its bits.
func TestCanaryWrong(t *testing.T) {
	for _, class := range classList {
		n := min(class-2, mostSecret)
		for bit := range 16 * 8 {
			inside := insideOf(n, class, sample(n))
			inside[class+bit/8] ^= 1 << (bit % 8)
			l, key := sealed(inside, class)
			wantBad(t, "canary", class, l, key)
		}
		inside := insideOf(n, class, sample(n))
		copy(inside[class:], bytes.Repeat([]byte{0xff}, 16))
		l, key := sealed(inside, class)
		wantBad(t, "canary", class, l, key)
	}
}

// P11.2: what is behind the secret, byte by byte, up to the class.
func TestRestWrong(t *testing.T) {
	for _, class := range classList {
		for _, n := range []int{class/2 - 1, class/2 + 3, class - 4, class - 3} {
			if class == 1024 && n > mostSecret {
				n = mostSecret
			}
			secret := sample(n)
			for at := 2 + n; at < class; at++ {
				inside := insideOf(n, class, secret)
				inside[at] = 1 << (at % 8)
				l, key := sealed(inside, class)
				wantBad(t, "behind the secret", class, l, key)
			}
			l, _ := sealed(insideOf(n, class, secret), class)
			wantSecret(t, class, l, secret)
		}
	}
}

// P11.2: lengths that are above class - 2, that another class has, or no secret has; each is told by an inside that is right but for it.
func TestLengthWrong(t *testing.T) {
	lengths := []int{0x4000, 0x7fff, 0x8000, 0x8001, 0xfffd, 0xfffe, 0xffff}
	for n := range 1100 {
		lengths = append(lengths, n)
	}
	for high := range 256 {
		lengths = append(lengths, high<<8, high<<8|5, high<<8|30, high<<8|0xff)
	}
	for _, class := range classList {
		for _, n := range lengths {
			inside := insideOf(n, class, nil)
			l, key := sealed(inside, class)
			if classOf(n) == class {
				wantSecret(t, class, l, make([]byte, n))
			} else {
				wantBad(t, "length", class, l, key)
			}
		}
	}
}

// P11.2: above class - 2 no length is right, though all that would be the secret is there: neither the canary nor what is behind it is taken for it.
func TestLengthIntoCanary(t *testing.T) {
	for _, class := range classList {
		for more := -1; more < 20; more++ {
			n := class + more
			inside := insideOf(n, class, bytes.Repeat([]byte{9}, class-2))
			l, key := sealed(inside, class)
			wantBad(t, "length", class, l, key)
		}
	}
}

// P11.2: a length that the class above, or below, has, with a secret to it.
func TestClassNotLengths(t *testing.T) {
	for i, class := range classList {
		for _, n := range []int{0, 1, class/4 - 2, class/2 - 2} {
			inside := insideOf(n, class, sample(n))
			l, key := sealed(inside, class)
			if i > 0 {
				wantBad(t, "a class too great", class, l, key)
			} else {
				wantSecret(t, class, l, sample(n))
			}
		}
	}
	for n := mostSecret + 1; n <= 1022; n++ {
		l, key := sealed(insideOf(n, 1024, sample(n)), 1024)
		wantBad(t, "a secret too long", 1024, l, key)
	}
}

// P11.2: several things that are wrong are one error.
func TestAllWrong(t *testing.T) {
	for set := range 32 {
		inside := insideOf(20, 32, sample(20))
		if set&1 != 0 {
			inside[40] = 1
		}
		if set&2 != 0 {
			inside[1] = 31
		}
		if set&4 != 0 {
			inside[25] = 1
		}
		if set&8 != 0 {
			inside[0] = 3
		}
		key := api.Key{byte(set)}
		l := slicesOf(packageOf(inside, key), 32, 3)
		if set&16 != 0 {
			l[2][26] = 1
		}
		if set == 0 {
			wantSecret(t, 32, l, sample(20))
		} else {
			wantBad(t, "several", 32, l, key)
		}
	}
}

// P11.3: a bit changed in the hidden part makes another key come out, and no secret; in the last part too.
func TestChanged(t *testing.T) {
	for _, class := range classList[:3] {
		n := class/2 + 5
		for _, k := range []int{1, 3, 16, 255} {
			key := api.Key{byte(k), byte(class)}
			l := wantPack(t, k, sample(n), key)
			size := len(l[0])
			met := map[api.Key]bool{key: true}
			for at := range class + behind {
				l[at/size][at%size] ^= 1 << (at % 8)
				got, e := aont.Key(class, l)
				if e != api.OK || met[got] {
					t.Errorf("class %d, %d slices, byte %d changed: key %x, %d, which was met", class, k, at, got, e)
				}
				met[got] = true
				if secret, e := aont.Unpack(class, l); len(secret) != 0 || e != api.ErrBad {
					t.Errorf("class %d, %d slices, byte %d changed: %x, %d", class, k, at, secret, e)
				}
				l[at/size][at%size] ^= 1 << (at % 8)
			}
			wantSecret(t, class, l, sample(n))
		}
	}
}

// P11.3: a slice changed wholly, or two exchanged, make another key come out.
func TestSlicesChanged(t *testing.T) {
	r := rand.New(rand.NewSource(14))
	for _, n := range []int{0, 30, 31, 300, 1000} {
		class, key := classOf(n), someKey(r)
		for _, k := range []int{2, 5, 9} {
			l := wantPack(t, k, sample(n), key)
			for i := range l {
				if i*len(l[i]) >= class+16 {
					continue
				}
				whole := l[i]
				for _, other := range [][]byte{make([]byte, len(whole)), sample(len(whole)), l[(i+1)%k]} {
					l[i] = other
					if got, e := aont.Key(class, l); got == key || e != api.OK {
						t.Errorf("%d bytes, slice %d of %d changed: the same key, %d", n, i, k, e)
					}
					if got, e := aont.Unpack(class, l); len(got) != 0 || e != api.ErrBad {
						t.Errorf("%d bytes, slice %d of %d changed: %x, %d", n, i, k, got, e)
					}
				}
				l[i] = whole
			}
			l[0], l[1] = l[1], l[0]
			if got, e := aont.Key(class, l); got == key || e != api.OK {
				t.Errorf("%d bytes, two of %d slices exchanged: the same key, %d", n, k, e)
			}
		}
	}
}

// P11.3: one secret by unlike keys has unlike packages, in each slice that has enough of them.
func TestKeysUnlike(t *testing.T) {
	met := map[string]bool{}
	for bit := range 256 {
		var key api.Key
		key[bit/8] = 1 << (bit % 8)
		for _, slice := range wantPack(t, 5, []byte("one secret"), key) {
			if met[string(slice)] {
				t.Errorf("key bit %d: %x was met", bit, slice)
			}
			met[string(slice)] = true
		}
	}
}

// R3: nil and empty are one.
func TestEmpty(t *testing.T) {
	for _, secret := range [][]byte{nil, {}, make([]byte, 0, 40)} {
		l := wantPack(t, 4, secret, api.Key{4})
		wantSecret(t, 32, l, nil)
	}
}

// roomy are the texts, each with room behind it, and that of the list filled too.
func roomy(l [][]byte) [][]byte {
	out := make([][]byte, 0, len(l)+2)
	for _, text := range l {
		room := append(bytes.Clone(text), sample(30)...)
		out = append(out, room[:len(text)])
	}
	return append(out, []byte("behind"), []byte("it"))[:len(l)]
}

// withRoom is all that the texts' memory has, the list's spare room included.
func withRoom(l [][]byte) [][]byte {
	var out [][]byte
	for _, text := range l[:cap(l)] {
		out = append(out, bytes.Clone(text[:cap(text)]))
	}
	return out
}

// R4: neither what is handed in nor its spare room is changed, in right calls and wrong ones.
func TestArgumentsStay(t *testing.T) {
	for n := 0; n <= 1000; n += 25 {
		class, key, k := classOf(n), api.Key{5}, 1+n%9
		secret := roomy([][]byte{sample(n)})
		before := withRoom(secret)
		l, _ := aont.Pack(k, secret[0], key)
		aont.Pack(0, secret[0], key)
		if !like(withRoom(secret), before) {
			t.Errorf("%d bytes: the secret was changed", n)
		}
		l = roomy(l)
		before = withRoom(l)
		aont.Key(class, l)
		aont.Unpack(class, l)
		aont.Unpack(class+1, l)
		l[0][1] ^= 1
		aont.Unpack(class, l)
		l[0][1] ^= 1
		if !like(withRoom(l), before) {
			t.Errorf("%d bytes, %d slices: they were changed", n, k)
		}
	}
}

func spoil(l [][]byte) {
	for _, text := range l[:cap(l)] {
		text = text[:cap(text)]
		for i := range text {
			text[i] ^= 0xff
		}
	}
}

// R4: an answer shares no memory with an argument, an earlier answer or another of its slices, spare room included.
func TestAnswersStay(t *testing.T) {
	for n := 0; n <= 1000; n += 10 {
		class, key, k := classOf(n), api.Key{6}, 1+n%200
		secret := sample(n)
		want := packed(k, secret, key)
		l, _ := aont.Pack(k, secret, key)
		again, _ := aont.Pack(k, secret, key)
		spoil(again)
		spoil([][]byte{secret})
		if !like(l, want) {
			t.Errorf("%d bytes, %d slices: an answer was changed", n, k)
		}
		for i := range l {
			spoil(l[i : i+1 : i+1])
			spoil(want[i : i+1 : i+1])
			for j := range l {
				if !bytes.Equal(l[j], want[j]) {
					t.Fatalf("%d bytes: slice %d changed with slice %d", n, j, i)
				}
			}
		}
		spoil(l)
		if !bytes.Equal(secret, inverted(sample(n))) {
			t.Errorf("%d bytes: a change of the slices is to be seen in the secret", n)
		}
		wantUnpackedStays(t, class, packed(k, sample(n), key), sample(n))
	}
}

func inverted(b []byte) []byte {
	spoil([][]byte{b})
	return b
}

func wantUnpackedStays(t *testing.T, class int, l [][]byte, want []byte) {
	t.Helper()
	before := withRoom(l)
	got, _ := aont.Unpack(class, l)
	again, _ := aont.Unpack(class, l)
	spoil([][]byte{again})
	if !like(withRoom(l), before) {
		t.Errorf("%d bytes: a change of the secret is to be seen in the slices", len(want))
	}
	spoil(l)
	if !bytes.Equal(got, want) {
		t.Errorf("%d bytes: the secret was changed", len(want))
	}
}

// R4: in the spare room of what is answered stands nothing of the package or of another secret.
func TestRoomEmpty(t *testing.T) {
	for n := 1; n <= 1000; n += 13 {
		l, _ := aont.Pack(1+n%60, sample(n), api.Key{8})
		secret, _ := aont.Unpack(classOf(n), l)
		for _, text := range append(l, secret) {
			for _, x := range text[len(text):cap(text)] {
				if x != 0 {
					t.Fatalf("%d bytes: %x in the spare room", n, x)
				}
			}
		}
	}
}

// R5: what was asked ahead, or is asked beside it, changes no answer.
func TestSameAgain(t *testing.T) {
	var asked sync.WaitGroup
	for n := 0; n <= 1000; n += 40 {
		key, k, class := api.Key{byte(n)}, 1+n%11, classOf(n)
		want := packed(k, sample(n), key)
		asked.Add(1)
		go func() {
			defer asked.Done()
			for range 3 {
				l, e := aont.Pack(k, sample(n), key)
				if e != api.OK || !like(l, want) {
					t.Errorf("%d bytes: another package", n)
				}
				got, e := aont.Key(class, want)
				if e != api.OK || got != key {
					t.Errorf("%d bytes: another key", n)
				}
				secret, e := aont.Unpack(class, want)
				if e != api.OK || !bytes.Equal(secret, sample(n)) {
					t.Errorf("%d bytes: another secret", n)
				}
				aont.Pack(0, nil, key)
				aont.Unpack(33, want)
			}
		}()
	}
	asked.Wait()
}

// secretIn is what Unpack is to answer of a whole package, filled up, by the words of the document.
func secretIn(class int, whole []byte) ([]byte, api.Key, api.Errno) {
	key := api.Key(sha256.Sum256(whole[:class+16]))
	for i := range key {
		key[i] ^= whole[class+16+i]
	}
	inside := hidden(whole[:class+16], key)
	n := int(inside[0])*256 + int(inside[1])
	if classOf(n) != class {
		return nil, key, api.ErrBad
	}
	secret := inside[2 : 2+n]
	if !bytes.Equal(inside, insideOf(n, class, secret)) || len(bytes.Trim(whole[class+behind:], "\x00")) > 0 {
		return nil, key, api.ErrBad
	}
	return secret, key, api.OK
}

// FuzzInside seals any inside, changes a byte of the slices, and holds what comes of it against the words of the document.
func FuzzInside(f *testing.F) {
	f.Add([]byte("hello"), 5, uint8(0), uint8(3), uint16(0), uint8(0))
	f.Add([]byte("hello"), 31, uint8(0), uint8(3), uint16(0), uint8(0))
	f.Add([]byte{}, 1001, uint8(5), uint8(255), uint16(0), uint8(0))
	f.Add([]byte("a secret"), 8, uint8(0), uint8(3), uint16(80), uint8(1))
	f.Add([]byte("a secret"), 7, uint8(0), uint8(80), uint16(20), uint8(1))
	f.Add(make([]byte, 63), 63, uint8(2), uint8(200), uint16(199), uint8(1))
	f.Fuzz(func(t *testing.T, text []byte, n int, which, count uint8, at uint16, change uint8) {
		class := classList[int(which)%len(classList)]
		k := max(1, int(count))
		inside := insideOf(n, class, text)[:class+16]
		key := api.Key(sha256.Sum256(text))
		l := slicesOf(packageOf(inside, key), class, k)
		slice := l[int(at)%k]
		slice[int(at)/k%len(slice)] ^= change
		secret, key, want := secretIn(class, bytes.Join(l, nil))
		wantKey(t, class, l, key)
		got, e := aont.Unpack(class, l)
		if e != want || !bytes.Equal(got, secret) {
			t.Errorf("class %d, %d slices, inside %x: %x, %d, want %x, %d", class, k, inside, got, e, secret, want)
		}
		if c, e := aont.Class(len(text)); e == api.OK {
			wantSecret(t, c, wantPack(t, k, text, key), text)
		}
	})
}
