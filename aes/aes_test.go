package aes_test

import (
	stdaes "crypto/aes"
	"crypto/cipher"
	"encoding/hex"
	"math/bits"
	"math/rand"
	"sync"
	"testing"

	"scrinium/aes"
	"scrinium/api"
)

type block = [16]byte

func bytesOf(t *testing.T, digits string) []byte {
	t.Helper()
	b, err := hex.DecodeString(digits)
	if err != nil {
		t.Fatal(err)
	}
	return b
}

// other is another program's cipher by the same key.
func other(t *testing.T, key api.Key) cipher.Block {
	t.Helper()
	c, err := stdaes.NewCipher(key[:])
	if err != nil {
		t.Fatal(err)
	}
	return c
}

func encrypted(t *testing.T, key api.Key, x block) block {
	t.Helper()
	var y block
	other(t, key).Encrypt(y[:], x[:])
	return y
}

func wantBlock(t *testing.T, key api.Key, x, want block) {
	t.Helper()
	if got := aes.New(key).Block(x); got != want {
		t.Errorf("key %x, block %x: %x, want %x", key, x, got, want)
	}
}

func someKey(r *rand.Rand) (k api.Key) {
	r.Read(k[:])
	return k
}

func someBlock(r *rand.Rand) (x block) {
	r.Read(x[:])
	return x
}

// P5.1: the chapter's example, and those of the standards (FIPS 197, SP 800-38A; keys and blocks of one bit, and of none).
func TestBlockKnown(t *testing.T) {
	const spKey = "603deb1015ca71be2b73aef0857d77811f352c073b6108d72d9810a30914dff4"
	const noughts = "0000000000000000000000000000000000000000000000000000000000000000"
	for _, c := range []struct{ key, block, want string }{
		{"000102030405060708090a0b0c0d0e0f101112131415161718191a1b1c1d1e1f", "00112233445566778899aabbccddeeff", "8ea2b7ca516745bfeafc49904b496089"},
		{spKey, "6bc1bee22e409f96e93d7e117393172a", "f3eed1bdb5d2a03c064b5a7e3db181f8"},
		{spKey, "ae2d8a571e03ac9c9eb76fac45af8e51", "591ccb10d410ed26dc5ba74a31362870"},
		{spKey, "30c81c46a35ce411e5fbc1191a0a52ef", "b6ed21b99ca6f4f9f153e7b1beafed1d"},
		{spKey, "f69f2445df4f9b17ad2b417be66c3710", "23304b7a39f9f3ff067d8d8f9e24ecc7"},
		{noughts, noughts[:32], "dc95c078a2408989ad48a21492842087"},
		{noughts, "80000000000000000000000000000000", "ddc6bf790c15760d8d9aeb6f9a75fd4e"},
		{"80" + noughts[2:], noughts[:32], "e35a6dcb19b201a01ebcfa8aa22b5759"},
	} {
		wantBlock(t, api.Key(bytesOf(t, c.key)), block(bytesOf(t, c.block)), block(bytesOf(t, c.want)))
	}
}

// P5.1: each bit of a key and of a block counts, and each byte at each place.
func TestBlockPlaces(t *testing.T) {
	for i := range 256 {
		key := api.Key{}
		key[i/8] = 1 << (i % 8)
		wantBlock(t, key, block{}, encrypted(t, key, block{}))
	}
	box, c := aes.New(api.Key{}), other(t, api.Key{})
	for place := range 16 {
		for value := range 256 {
			var x, want block
			x[place] = byte(value)
			c.Encrypt(want[:], x[:])
			if got := box.Block(x); got != want {
				t.Errorf("%x: %x, want %x", x, got, want)
			}
		}
	}
}

// P5.1: keys and blocks of all kinds, held against another program's.
func TestBlockOther(t *testing.T) {
	r := rand.New(rand.NewSource(5))
	for value := range 256 {
		var key api.Key
		for i := range key {
			key[i] = byte(value)
		}
		for _, x := range []block{{}, block(key[:16]), someBlock(r)} {
			wantBlock(t, key, x, encrypted(t, key, x))
		}
	}
	for range 2000 {
		key, x := someKey(r), someBlock(r)
		wantBlock(t, key, x, encrypted(t, key, x))
	}
}

// P5.1: a long chain, in which each answer is the next block and makes the next keys: one wrong bit anywhere spoils its end.
func TestBlockChain(t *testing.T) {
	var key, otherKey api.Key
	var x, y block
	for i := range 200 {
		box, c := aes.New(key), other(t, otherKey)
		for range 50 {
			x = box.Block(x)
			c.Encrypt(y[:], y[:])
		}
		half := 16 * (i % 2)
		for j := range x {
			key[half+j] ^= x[j]
			otherKey[half+j] ^= y[j]
		}
	}
	if x != y {
		t.Errorf("%x, want %x", x, y)
	}
}

// product is that of x and y in the field, by the long way: as polynomials, whose remainder by 11B is left.
func product(x, y int) int {
	p := 0
	for i := range 8 {
		if y>>i&1 == 1 {
			p ^= x << i
		}
	}
	for i := 14; i >= 8; i-- {
		if p>>i&1 == 1 {
			p ^= 0x11b << (i - 8)
		}
	}
	return p
}

// P5.1: each byte of the table is reckoned anew: its inverse is sought among all bytes, its affine turn made bit by bit.
func TestTableReckoned(t *testing.T) {
	table := aes.Table()
	for x := range 256 {
		inverse := 0
		for y := range 256 {
			if product(x, y) == 1 {
				inverse = y
			}
		}
		want := 0
		for i := range 8 {
			bit := 0x63 >> i & 1
			for _, n := range []int{0, 4, 5, 6, 7} {
				bit ^= inverse >> ((i + n) % 8) & 1
			}
			want |= bit << i
		}
		if int(table[x]) != want {
			t.Errorf("byte %x: %x, want %x", x, table[x], want)
		}
	}
}

// P5.1: the standard's own figures, its first and last rows, and that each byte stands in it once.
func TestTableKnown(t *testing.T) {
	table := aes.Table()
	if got := hex.EncodeToString(table[:16]); got != "637c777bf26b6fc53001672bfed7ab76" {
		t.Errorf("first row: %s", got)
	}
	if got := hex.EncodeToString(table[240:]); got != "8ca1890dbfe6426841992d0fb054bb16" {
		t.Errorf("last row: %s", got)
	}
	var met [256]bool
	for x, y := range table {
		if met[y] || int(y) == x || int(y) == x^0xff {
			t.Errorf("byte %x: %x", x, y)
		}
		met[y] = true
	}
}

// P5.2: blocks that differ little, or not in most places, are encrypted to unlike ones.
func TestBlocksUnlike(t *testing.T) {
	r := rand.New(rand.NewSource(52))
	for _, key := range []api.Key{{}, {31: 1}, someKey(r)} {
		box, met := aes.New(key), map[block]block{}
		ask := func(x block) {
			y := box.Block(x)
			if before, ok := met[y]; ok && before != x {
				t.Errorf("%x and %x: both %x", before, x, y)
			}
			met[y] = x
		}
		for i := range 1 << 14 {
			ask(block{14: byte(i >> 8), 15: byte(i)})
			ask(block{0: byte(i >> 8), 5: byte(i)})
			ask(someBlock(r))
		}
	}
}

// P5.2: what is encrypted can be told again, so that no two blocks have one answer.
func TestBlockToldAgain(t *testing.T) {
	r := rand.New(rand.NewSource(53))
	for range 500 {
		key, x := someKey(r), someBlock(r)
		y := aes.New(key).Block(x)
		var again block
		other(t, key).Decrypt(again[:], y[:])
		if again != x {
			t.Errorf("key %x, block %x: told again %x", key, x, again)
		}
	}
}

// P5.1: a bit more or less in a key or a block changes about half of the answer's bits.
func TestBitsSpread(t *testing.T) {
	differ := func(x, y block) (n int) {
		for i := range x {
			n += bits.OnesCount8(x[i] ^ y[i])
		}
		return n
	}
	r := rand.New(rand.NewSource(54))
	key, x := someKey(r), someBlock(r)
	y := aes.New(key).Block(x)
	for i := range 256 {
		near := key
		near[i/8] ^= 1 << (i % 8)
		if n := differ(y, aes.New(near).Block(x)); n < 32 || n > 96 {
			t.Errorf("bit %d of the key: %d bits", i, n)
		}
	}
	for i := range 128 {
		near := x
		near[i/8] ^= 1 << (i % 8)
		if n := differ(y, aes.New(key).Block(near)); n < 32 || n > 96 {
			t.Errorf("bit %d of the block: %d bits", i, n)
		}
	}
}

// P5.2, R1: a nil box answers noughts, whatever it is asked.
func TestNil(t *testing.T) {
	var box *aes.Box
	r := rand.New(rand.NewSource(55))
	for _, x := range []block{{}, {1}, {15: 0xff}, someBlock(r), someBlock(r)} {
		if y := box.Block(x); y != (block{}) {
			t.Errorf("%x: %x", x, y)
		}
	}
	if aes.New(api.Key{}) == nil {
		t.Error("the key of noughts has no box")
	}
}

// R4: neither what becomes of a key or a block behind the call, nor of a table that was handed out, is to be seen in a later answer.
func TestAnswersStay(t *testing.T) {
	r := rand.New(rand.NewSource(56))
	key, x := someKey(r), someBlock(r)
	keyBefore, before := key, x
	want := encrypted(t, key, x)
	table, whole := aes.Table(), aes.Table()
	box := aes.New(key)
	box.Block(x)
	if key != keyBefore || x != before {
		t.Error("an argument was changed")
	}
	for i := range table {
		table[i] = 0
	}
	key, x = api.Key{}, block{}
	if box.Block(before) != want {
		t.Error("another answer behind a change of the key")
	}
	wantBlock(t, keyBefore, before, want)
	if aes.Table() != whole {
		t.Error("another table behind a change of an earlier one")
	}
}

// R5: boxes don't hang on each other, nor an answer on what was asked ahead or is asked beside it.
func TestSameAgain(t *testing.T) {
	r := rand.New(rand.NewSource(57))
	var boxes [8]*aes.Box
	var keys [8]api.Key
	for i := range boxes {
		keys[i] = someKey(r)
		boxes[i] = aes.New(keys[i])
	}
	var asked sync.WaitGroup
	for range 100 {
		x := someBlock(r)
		var want [8]block
		for i, key := range keys {
			want[i] = encrypted(t, key, x)
		}
		asked.Add(1)
		go func() {
			defer asked.Done()
			for range 3 {
				for i, box := range boxes {
					if box.Block(x) != want[i] || aes.New(keys[i]).Block(x) != want[i] {
						t.Errorf("box %d, %x: another answer", i, x)
					}
				}
			}
		}()
	}
	asked.Wait()
}

func FuzzBlock(f *testing.F) {
	f.Add([]byte{}, []byte{})
	f.Add([]byte("a key"), []byte("a block"))
	f.Fuzz(func(t *testing.T, k, b []byte) {
		var key api.Key
		var x block
		copy(key[:], k)
		copy(x[:], b)
		wantBlock(t, key, x, encrypted(t, key, x))
	})
}
