package ctr_test

import (
	"bytes"
	stdaes "crypto/aes"
	"crypto/cipher"
	"encoding/hex"
	"math"
	"math/big"
	"math/rand"
	"sync"
	"testing"

	"scrinium/aes"
	"scrinium/api"
	"scrinium/ctr"
)

type number = [16]byte

func bytesOf(t *testing.T, digits string) []byte {
	t.Helper()
	b, err := hex.DecodeString(digits)
	if err != nil {
		t.Fatal(err)
	}
	return b
}

func sample(n int) []byte {
	b := make([]byte, n)
	rand.New(rand.NewSource(int64(n))).Read(b)
	return b
}

func someKey(r *rand.Rand) (k api.Key) {
	r.Read(k[:])
	return k
}

func someNumber(r *rand.Rand) (x number) {
	r.Read(x[:])
	return x
}

// full is a number whose highest bytes, as many as zeros, are 0, and all others FF.
func full(zeros int) (x number) {
	for i := zeros; i < len(x); i++ {
		x[i] = 0xff
	}
	return x
}

// edges are numbers at which a carry goes far, or round, and those beside them.
func edges() []number {
	list := []number{{}, {15: 1}, {0: 0x80}, {0: 0x7f, 15: 0xff}, {7: 1}, {8: 0x80}}
	for zeros := range 16 {
		x := full(zeros)
		list = append(list, x)
		x[15] = 0xfe
		list = append(list, x)
		x[15] = 0xf0
		list = append(list, x)
	}
	return list
}

// hidden is what another program makes of the same.
func hidden(t *testing.T, key api.Key, from number, text []byte) []byte {
	t.Helper()
	c, err := stdaes.NewCipher(key[:])
	if err != nil {
		t.Fatal(err)
	}
	out := make([]byte, len(text))
	cipher.NewCTR(c, from[:]).XORKeyStream(out, text)
	return out
}

// counted is from and n, reckoned with numbers of any size.
func counted(from number, n uint64) (x number) {
	sum := new(big.Int).SetBytes(from[:])
	sum.Add(sum, new(big.Int).SetUint64(n))
	sum.Mod(sum, new(big.Int).Lsh(big.NewInt(1), 128))
	sum.FillBytes(x[:])
	return x
}

func wantHidden(t *testing.T, key api.Key, from number, text, want []byte) {
	t.Helper()
	if got := ctr.Hide(key, from, text); !bytes.Equal(got, want) {
		t.Errorf("key %x, from %x, %d bytes: %x, want %x", key, from, len(text), got, want)
	}
}

func wantCount(t *testing.T, from number, n uint64, want number) {
	t.Helper()
	if got := ctr.Count(from, n); got != want {
		t.Errorf("%x and %d: %x, want %x", from, n, got, want)
	}
}

// P6.1: the standards' examples (SP 800-38A, F.5.5; RFC 3686, tests 7 to 9).
func TestHideKnown(t *testing.T) {
	for _, c := range []struct{ key, from, text, want string }{
		{
			"603deb1015ca71be2b73aef0857d77811f352c073b6108d72d9810a30914dff4", "f0f1f2f3f4f5f6f7f8f9fafbfcfdfeff",
			"6bc1bee22e409f96e93d7e117393172aae2d8a571e03ac9c9eb76fac45af8e5130c81c46a35ce411e5fbc1191a0a52eff69f2445df4f9b17ad2b417be66c3710",
			"601ec313775789a5b7a7f504bbf3d228f443e3ca4d62b59aca84e990cacaf5c52b0930daa23de94ce87017ba2d84988ddfc9c58db67aada613c2dd08457941a6",
		},
		{
			"776beff2851db06f4c8a0542c8696f6c6a81af1eec96b4d37fc1d689e6c1c104", "00000060db5672c97aa8f0b200000001",
			"53696e676c6520626c6f636b206d7367",
			"145ad01dbf824ec7560863dc71e3e0c0",
		},
		{
			"f6d66d6bd52d59bb0796365879eff886c66dd51a5b6a99744b50590c87a23884", "00faac24c1585ef15a43d87500000001",
			"000102030405060708090a0b0c0d0e0f101112131415161718191a1b1c1d1e1f",
			"f05e231b3894612c49ee000b804eb2a9b8306b508f839d6a5530831d9344af1c",
		},
		{
			"ff7a617ce69148e4f1726e2f43581de2aa62d9f805532edff1eed687fb54153d", "001cc5b751a51d70a1c1114800000001",
			"000102030405060708090a0b0c0d0e0f101112131415161718191a1b1c1d1e1f20212223",
			"eb6c52821d0bbbf7ce7594462aca4faab407df866569fd07f48cc0b583d6071f1ec0e6b8",
		},
	} {
		wantHidden(t, api.Key(bytesOf(t, c.key)), number(bytesOf(t, c.from)), bytesOf(t, c.text), bytesOf(t, c.want))
	}
}

// P6.1: texts of every length around the edges of blocks, and long ones.
func TestHideLengths(t *testing.T) {
	r := rand.New(rand.NewSource(6))
	lengths := []int{api.MaxSecret, 4095, 4096, 4097, 16 * 255, 16 * 256, 16 * 257, api.MaxBytes - 1, api.MaxBytes, api.MaxBytes + 1, 1<<20 + 5}
	for n := range 150 {
		lengths = append(lengths, n)
	}
	for _, n := range lengths {
		key, from, text := someKey(r), someNumber(r), sample(n)
		wantHidden(t, key, from, text, hidden(t, key, from, text))
	}
}

// P6.1: the stream is the encrypted blocks of the number, it and 1, it and 2: a text of noughts shows it.
func TestHideShowsStream(t *testing.T) {
	r := rand.New(rand.NewSource(61))
	const blocks = 300
	for _, from := range append(edges(), someNumber(r)) {
		key := someKey(r)
		stream, box := ctr.Hide(key, from, make([]byte, 16*blocks)), aes.New(key)
		for i := range blocks {
			want := box.Block(counted(from, uint64(i)))
			if got := stream[16*i : 16*(i+1)]; !bytes.Equal(got, want[:]) {
				t.Fatalf("from %x, block %d: %x, want %x", from, i, got, want)
			}
		}
	}
}

// P6.1: the number goes round within a text: behind 16 bytes FF comes 16 bytes 0.
func TestHideGoesRound(t *testing.T) {
	r := rand.New(rand.NewSource(62))
	for _, from := range edges() {
		key, text := someKey(r), sample(100)
		wantHidden(t, key, from, text, hidden(t, key, from, text))
	}
	key, text := someKey(r), sample(50)
	got := ctr.Hide(key, full(0), text)
	if !bytes.Equal(got[16:], ctr.Hide(key, number{}, text[16:])) {
		t.Error("behind 16 bytes FF the stream isn't that of 16 bytes 0")
	}
}

// P6.1: keys, beginnings and texts of all kinds, held against another program's.
func TestHideOther(t *testing.T) {
	r := rand.New(rand.NewSource(63))
	for range 1000 {
		key, from, text := someKey(r), someNumber(r), sample(r.Intn(200))
		wantHidden(t, key, from, text, hidden(t, key, from, text))
	}
	for i := range 256 {
		var key api.Key
		key[i/8] = 1 << (i % 8)
		wantHidden(t, key, number{}, sample(40), hidden(t, key, number{}, sample(40)))
	}
	for i := range 128 {
		var from number
		from[i/8] = 1 << (i % 8)
		wantHidden(t, api.Key{}, from, sample(40), hidden(t, api.Key{}, from, sample(40)))
	}
}

// P6.1: each bit of a text is hidden at its own place, and changes no other.
func TestHideBitByBit(t *testing.T) {
	key, from, text := api.Key{6}, number{1}, sample(35)
	whole := ctr.Hide(key, from, text)
	for i := range 8 * len(text) {
		near, want := bytes.Clone(text), bytes.Clone(whole)
		near[i/8] ^= 1 << (i % 8)
		want[i/8] ^= 1 << (i % 8)
		wantHidden(t, key, from, near, want)
	}
}

// P6.1: unlike keys and unlike beginnings have unlike streams.
func TestStreamsUnlike(t *testing.T) {
	met := map[string]bool{}
	count := 0
	ask := func(key api.Key, from number) {
		met[string(ctr.Hide(key, from, make([]byte, 16)))] = true
		count++
	}
	for i := range 256 {
		var key api.Key
		key[i/8] = 1 << (i % 8)
		ask(key, number{})
	}
	for i := range 128 {
		var from number
		from[i/8] = 1 << (i % 8)
		ask(api.Key{}, from)
	}
	ask(api.Key{}, number{})
	if len(met) != count {
		t.Errorf("%d streams, %d of them unlike", count, len(met))
	}
}

// P6.1: the chapter's example, and sums at the edges of each byte.
func TestCountKnown(t *testing.T) {
	wantCount(t, full(0), 1, number{})
	wantCount(t, full(0), 0, full(0))
	wantCount(t, full(0), 2, number{15: 1})
	wantCount(t, full(1), 1, number{0: 1})
	wantCount(t, full(8), 1, number{7: 1})
	wantCount(t, full(8), math.MaxUint64, counted(full(8), math.MaxUint64))
	wantCount(t, full(0), math.MaxUint64, number{8: 0xff, 0xff, 0xff, 0xff, 0xff, 0xff, 0xff, 0xfe})
	wantCount(t, number{}, math.MaxUint64, full(8))
	wantCount(t, number{}, 0x0102030405060708, number{8: 1, 2, 3, 4, 5, 6, 7, 8})
	wantCount(t, number{14: 0xff, 15: 0xff}, 2, number{13: 1, 15: 1})
	wantCount(t, number{}, 1<<63, number{8: 0x80})
	for place := range 16 {
		var want number
		want[place] = 1
		wantCount(t, full(place+1), 1, want)
	}
}

// P6.1: all pairs of edges, and numbers of all kinds, reckoned anew with numbers of any size.
func TestCountReckoned(t *testing.T) {
	ns := []uint64{0, math.MaxUint64, math.MaxUint64 - 1}
	for bit := range 64 {
		ns = append(ns, 1<<bit, 1<<bit-1, 1<<bit+1)
	}
	for _, from := range edges() {
		for _, n := range ns {
			wantCount(t, from, n, counted(from, n))
		}
	}
	r := rand.New(rand.NewSource(64))
	for range 5000 {
		from, n := someNumber(r), r.Uint64()>>r.Intn(64)
		wantCount(t, from, n, counted(from, n))
	}
	for bit := range 128 {
		var from number
		from[bit/8] = 1 << (bit % 8)
		for _, n := range ns {
			wantCount(t, from, n, counted(from, n))
		}
	}
}

// P6.1: counted step by step is counted at once.
func TestCountSteps(t *testing.T) {
	r := rand.New(rand.NewSource(65))
	for range 500 {
		from, a, b := someNumber(r), r.Uint64()>>1, r.Uint64()>>1
		wantCount(t, ctr.Count(from, a), b, ctr.Count(from, a+b))
	}
	x := number{12: 0xff, 0xff, 0xff}
	for i := range 1000 {
		wantCount(t, number{12: 0xff, 0xff, 0xff}, uint64(i), x)
		x = ctr.Count(x, 1)
	}
}

// P6.1, P6.2: what is hidden from a later block on is the rest of what is hidden from the first.
func TestHideFromWithin(t *testing.T) {
	r := rand.New(rand.NewSource(66))
	text := sample(500)
	for _, from := range append(edges(), someNumber(r)) {
		key := someKey(r)
		whole := ctr.Hide(key, from, text)
		for i := 0; 16*i < len(text); i++ {
			wantHidden(t, key, ctr.Count(from, uint64(i)), text[16*i:], whole[16*i:])
		}
	}
}

// P6.2: hidden twice is what was hidden.
func TestHiddenTwice(t *testing.T) {
	r := rand.New(rand.NewSource(67))
	for n := range 300 {
		for _, text := range [][]byte{sample(n), make([]byte, n), bytes.Repeat([]byte{0xff}, n)} {
			for _, from := range []number{{}, full(0), someNumber(r)} {
				key := someKey(r)
				wantHidden(t, key, from, ctr.Hide(key, from, text), text)
			}
		}
	}
	key, long := someKey(r), sample(api.MaxBytes+1)
	wantHidden(t, key, full(0), ctr.Hide(key, full(0), long), long)
}

// P6.2: a text is hidden, not told: but for its length nothing of it is to be seen, and by another key or beginning it isn't told again.
func TestHiddenIsHidden(t *testing.T) {
	key, from, text := api.Key{7}, number{3}, sample(64)
	got := ctr.Hide(key, from, text)
	if len(got) != len(text) || bytes.Equal(got, text) {
		t.Errorf("%x: %x", text, got)
	}
	if bytes.Equal(ctr.Hide(api.Key{8}, from, got), text) || bytes.Equal(ctr.Hide(key, number{4}, got), text) {
		t.Error("told again by another key or beginning")
	}
}

// P6.2: what is hidden of a longer text begins with what is hidden of its beginning.
func TestHiddenBeginnings(t *testing.T) {
	r := rand.New(rand.NewSource(68))
	for _, from := range []number{{}, full(0), full(8), someNumber(r)} {
		key, text := someKey(r), sample(200)
		whole := ctr.Hide(key, from, text)
		for n := range len(text) + 1 {
			wantHidden(t, key, from, text[:n], whole[:n])
		}
	}
}

// R1, R3: nil and empty texts are one, and hidden they are empty.
func TestHideEmpty(t *testing.T) {
	r := rand.New(rand.NewSource(69))
	for _, from := range []number{{}, full(0), someNumber(r)} {
		for _, text := range [][]byte{nil, {}, make([]byte, 0, 40)} {
			if got := ctr.Hide(someKey(r), from, text); len(got) != 0 {
				t.Errorf("from %x, no text: %x", from, got)
			}
		}
	}
}

// R4: neither what is handed in nor its spare room is changed.
func TestArgumentsStay(t *testing.T) {
	r := rand.New(rand.NewSource(70))
	for n := range 70 {
		key, from, room := someKey(r), full(n%17), sample(n+70)
		keyBefore, fromBefore, before := key, from, bytes.Clone(room)
		ctr.Hide(key, from, room[:n])
		ctr.Count(from, uint64(n))
		if key != keyBefore || from != fromBefore || !bytes.Equal(room, before) {
			t.Errorf("%d bytes: an argument was changed", n)
		}
	}
}

// R4: an answer shares no memory with the text or an earlier answer, spare room included.
func TestAnswersStay(t *testing.T) {
	key, from := api.Key{9}, number{15: 9}
	for n := range 70 {
		text := sample(n)
		want := hidden(t, key, from, text)
		got, again := ctr.Hide(key, from, text), ctr.Hide(key, from, text)
		again = again[:cap(again)]
		for i := range again {
			again[i] ^= 0xff
		}
		for i := range text {
			text[i] ^= 0xff
		}
		if !bytes.Equal(got, want) {
			t.Errorf("%d bytes: an answer was changed", n)
		}
		wantHidden(t, key, from, sample(n), want)
		for i := range got {
			got[i] = 0
		}
		if n > 0 && bytes.Equal(text, make([]byte, n)) {
			t.Errorf("%d bytes: a change of the answer is to be seen in the text", n)
		}
	}
}

// R5: what was asked ahead, or is asked beside it, changes no answer.
func TestSameAgain(t *testing.T) {
	r := rand.New(rand.NewSource(71))
	text := sample(90)
	var asked sync.WaitGroup
	for n := range 60 {
		key, from := someKey(r), someNumber(r)
		want, next := hidden(t, key, from, text[:n]), counted(from, uint64(n))
		asked.Add(1)
		go func() {
			defer asked.Done()
			for range 3 {
				if !bytes.Equal(ctr.Hide(key, from, text[:n]), want) || ctr.Count(from, uint64(n)) != next {
					t.Errorf("%d bytes: another answer", n)
				}
			}
		}()
	}
	asked.Wait()
}

func FuzzHide(f *testing.F) {
	f.Add([]byte{}, []byte{}, []byte{}, uint64(0))
	f.Add([]byte("a key"), bytes.Repeat([]byte{0xff}, 16), []byte("a text that is longer than one block"), uint64(1))
	f.Add([]byte("a key"), bytes.Repeat([]byte{0xff}, 16), make([]byte, 33), uint64(math.MaxUint64))
	f.Fuzz(func(t *testing.T, k, b, text []byte, n uint64) {
		var key api.Key
		var from number
		copy(key[:], k)
		copy(from[:], b)
		wantHidden(t, key, from, text, hidden(t, key, from, text))
		wantHidden(t, key, from, ctr.Hide(key, from, text), text)
		wantCount(t, from, n, counted(from, n))
	})
}
