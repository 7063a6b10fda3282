package hmac_test

import (
	"bytes"
	stdhmac "crypto/hmac"
	"crypto/sha256"
	"encoding/binary"
	"encoding/hex"
	"math/rand"
	"slices"
	"strings"
	"sync"
	"testing"
	"time"

	"scrinium/api"
	"scrinium/hmac"
	"scrinium/sha"
)

func sample(n int) []byte {
	b := make([]byte, n)
	rand.New(rand.NewSource(int64(n))).Read(b)
	return b
}

func wantKey(t *testing.T, what string, got, want api.Key) {
	t.Helper()
	if got != want {
		t.Errorf("%s: %x, want %x", what, got, want)
	}
}

// known is the tag as another program makes it.
func known(key, text []byte) api.Key {
	h := stdhmac.New(sha256.New, key)
	h.Write(text)
	return api.Key(h.Sum(nil))
}

// told is the text whose tag Tags answers, put together by other means.
func told(l [][]byte) []byte {
	var b []byte
	for _, t := range l {
		b = binary.BigEndian.AppendUint32(b, uint32(len(t)))
		b = append(b, t...)
	}
	return b
}

// P3.1: the chapter's example, and those of RFC 4231.
func TestTagKnown(t *testing.T) {
	rep := strings.Repeat
	for _, c := range []struct{ key, text, want string }{
		{"Jefe", "what do ya want for nothing?", "5bdcc146bf60754e6a042426089575c75a003f089d2739839dec58b964ec3843"},
		{rep("\x0b", 20), "Hi There", "b0344c61d8db38535ca8afceaf0bf12b881dc200c9833da726e9376c2e32cff7"},
		{rep("\xaa", 20), rep("\xdd", 50), "773ea91e36800e46854db8ebd09181a72959098b3ef8c122d9635514ced565fe"},
		{"\x01\x02\x03\x04\x05\x06\x07\x08\x09\x0a\x0b\x0c\x0d\x0e\x0f\x10\x11\x12\x13\x14\x15\x16\x17\x18\x19", rep("\xcd", 50), "82558a389a443c0ea4cc819899f2083a85f0faa3e578f8077a2e3ff46729665b"},
		{rep("\xaa", 131), "Test Using Larger Than Block-Size Key - Hash Key First", "60e431591ee0b67f0d8a26aacbf5b77f8e0bc6213728c5140546040f0ee37f54"},
		{rep("\xaa", 131), "This is a test using a larger than block-size key and a larger than block-size data. The key needs to be hashed before being used by the HMAC algorithm.", "9b09ffa71b942fcb27635fbcd5b0e944bfdc63644f0713938a7f51535c3a35e2"},
		{"", "", "b613679a0814d9ec772f95d778c35fc5ff1697c493715653c6c712144292c5ad"},
	} {
		got := hmac.Tag([]byte(c.key), []byte(c.text))
		if hex.EncodeToString(got[:]) != c.want {
			t.Errorf("key %q, text %q: %x, want %s", c.key, c.text, got, c.want)
		}
	}
}

// P3.1: keys and texts of every length around the edges of a block, where a key begins to stand for its digest.
func TestTagLengths(t *testing.T) {
	texts := [][]byte{nil, sample(1), sample(55), sample(56), sample(64), sample(200)}
	for n := range 200 {
		for _, key := range [][]byte{make([]byte, n), bytes.Repeat([]byte{0xff}, n), sample(n)} {
			for _, text := range texts {
				if got, want := hmac.Tag(key, text), known(key, text); got != want {
					t.Errorf("key of %d bytes, text of %d: %x, want %x", n, len(text), got, want)
				}
			}
		}
	}
	for _, n := range []int{api.MaxSecret, api.MaxBytes - 1, api.MaxBytes, api.MaxBytes + 1, 1 << 20} {
		long := sample(n)
		wantKey(t, "long text", hmac.Tag([]byte("k"), long), known([]byte("k"), long))
		wantKey(t, "long key", hmac.Tag(long, []byte("t")), known(long, []byte("t")))
	}
}

// P3.1: a key of 64 bytes is itself, one of 65 is its digest, and bytes 0 fill up what is shorter.
func TestKeyEdges(t *testing.T) {
	text := []byte("text")
	whole, over := sample(64), sample(65)
	digest, overDigest := sha.Sum(whole), sha.Sum(over)
	if hmac.Tag(whole, text) == hmac.Tag(digest[:], text) {
		t.Error("a key of 64 bytes was taken for its digest")
	}
	wantKey(t, "key of 65 bytes", hmac.Tag(over, text), hmac.Tag(overDigest[:], text))
	short := []byte("short")
	wantKey(t, "filled by hand", hmac.Tag(short, text), hmac.Tag(append(short, make([]byte, 59)...), text))
	if hmac.Tag(short, text) == hmac.Tag(append(short, make([]byte, 60)...), text) {
		t.Error("bytes 0 behind the 64th don't count")
	}
}

// P3.1, R1, R3: nil and empty are one.
func TestNilAndEmpty(t *testing.T) {
	want := known(nil, nil)
	wantKey(t, "Tag(nil, nil)", hmac.Tag(nil, nil), want)
	wantKey(t, "Tag(empty, empty)", hmac.Tag([]byte{}, []byte{}), want)
	wantKey(t, "Tags(nil, nil)", hmac.Tags(nil, nil), want)
	wantKey(t, "Tags(empty, empty)", hmac.Tags([]byte{}, [][]byte{}), want)
	one := known(nil, make([]byte, 4))
	wantKey(t, "Tags(nil, {nil})", hmac.Tags(nil, [][]byte{nil}), one)
	wantKey(t, "Tags(nil, {empty})", hmac.Tags(nil, [][]byte{{}}), one)
	for _, a := range [][]byte{nil, {}} {
		for _, b := range [][]byte{nil, {}} {
			if !hmac.Equal(a, b) {
				t.Errorf("Equal(%v, %v) is false", a, b)
			}
		}
	}
}

// P3.1: ahead of each text stands its length, the highest of four bytes first.
func TestTagsLists(t *testing.T) {
	key := []byte("key")
	for _, l := range [][][]byte{
		{{1}},
		{{1}, nil},
		{nil, {1}},
		{nil, nil, nil},
		{[]byte("ab"), []byte("c"), []byte("")},
		{sample(255), sample(256), sample(257)},
		{sample(api.MaxBytes - 1), sample(api.MaxBytes), sample(api.MaxBytes + 1)},
		{sample(1<<24 - 1), sample(1 << 24)},
		{{0, 0, 0, 0}, {0, 0, 0}},
	} {
		wantKey(t, "list", hmac.Tags(key, l), known(key, told(l)))
	}
	many := slices.Repeat([][]byte{{7}, nil, []byte("abc")}, 1000)
	wantKey(t, "many texts", hmac.Tags(key, many), known(key, told(many)))
	for n := range 140 {
		key, l := sample(n), [][]byte{sample(n), sample(n / 2), sample(2 * n)}
		if got, want := hmac.Tags(key, l), known(key, told(l)); got != want {
			t.Errorf("key of %d bytes: %x, want %x", n, got, want)
		}
	}
	wantKey(t, "by hand", hmac.Tags(key, [][]byte{{9}, {8, 7}}), hmac.Tag(key, []byte{0, 0, 0, 1, 9, 0, 0, 0, 2, 8, 7}))
}

// P3.2: lists that a careless telling would make one have tags of their own.
func TestTagsUnlike(t *testing.T) {
	key := []byte("key")
	lists := [][][]byte{
		nil,
		{nil},
		{nil, nil},
		{[]byte("a")},
		{nil, []byte("a")},
		{[]byte("a"), nil},
		{[]byte("ab")},
		{[]byte("a"), []byte("b")},
		{[]byte("b"), []byte("a")},
		{[]byte("a"), nil, []byte("b")},
		{{0}},
		{{0, 0, 0, 0}},
		{{0, 0, 0, 1}},
		{{0, 0, 0, 1, 0}},
		{{0, 0, 0, 0, 0, 0, 0, 0}},
		{{0, 0, 0, 1, 'a'}},
		{{'a', 0, 0, 0, 1, 'b'}},
		{make([]byte, 256)},
		{make([]byte, 256), nil},
		{make([]byte, 1<<16)},
		{make([]byte, 1<<24)},
		{nil, make([]byte, 252)},
	}
	seen := map[api.Key]int{}
	for i, l := range lists {
		k := hmac.Tags(key, l)
		if j, ok := seen[k]; ok {
			t.Errorf("lists %d and %d have one tag", j, i)
		}
		seen[k] = i
	}
}

// P3.2: every way of cutting one text is unlike every other.
func TestTagsCuts(t *testing.T) {
	for _, text := range [][]byte{make([]byte, 11), []byte("aaaaaaaaaaa"), {0, 0, 0, 1, 0, 0, 0, 1, 0, 0, 0}} {
		seen := map[api.Key]bool{}
		cuts := 1 << (len(text) - 1)
		for cut := range cuts {
			var l [][]byte
			from := 0
			for i := 1; i < len(text); i++ {
				if cut>>(i-1)&1 == 1 {
					l = append(l, text[from:i])
					from = i
				}
			}
			seen[hmac.Tags(nil, append(l, text[from:]))] = true
		}
		if len(seen) != cuts {
			t.Errorf("%d cuts of %x have %d tags", cuts, text, len(seen))
		}
	}
}

// P3.1: each key and each text has a tag of its own, and a list is not its one text.
func TestTagsHang(t *testing.T) {
	a, b := []byte("a"), []byte("b")
	keys := []api.Key{hmac.Tag(a, a), hmac.Tag(a, b), hmac.Tag(b, a), hmac.Tag(b, b), hmac.Tags(a, [][]byte{a}), hmac.Tags(b, [][]byte{a}), sha.Sum(a)}
	for i, k := range keys {
		if slices.Contains(keys[i+1:], k) {
			t.Errorf("tag %d stands twice", i)
		}
	}
}

// P3.1: one bit of one byte, wherever it is, is enough to be unlike; two that differ don't make up for each other.
func TestEqualBits(t *testing.T) {
	for _, n := range []int{1, 2, 7, 8, 9, 16, 31, 32, 33, 64, 100} {
		a := sample(n)
		if !hmac.Equal(a, bytes.Clone(a)) || !hmac.Equal(a, a) {
			t.Errorf("%d bytes aren't like themselves", n)
		}
		for i := range n {
			for bit := range 8 {
				b := bytes.Clone(a)
				b[i] ^= 1 << bit
				if hmac.Equal(a, b) || hmac.Equal(b, a) {
					t.Errorf("%d bytes, bit %d of byte %d: like", n, bit, i)
				}
				b[(i+1)%n] ^= 1 << bit
				if n > 1 && hmac.Equal(a, b) {
					t.Errorf("%d bytes, bit %d of byte %d and the next: like", n, bit, i)
				}
			}
		}
	}
}

// P3.1: all pairs of bytes.
func TestEqualBytes(t *testing.T) {
	for a := range 256 {
		for b := range 256 {
			if hmac.Equal([]byte{byte(a)}, []byte{byte(b)}) != (a == b) {
				t.Errorf("%d and %d", a, b)
			}
		}
	}
}

// P3.1, R1: of unlike lengths none are the same, and what one lacks isn't looked for.
func TestEqualLengths(t *testing.T) {
	for _, b := range [][]byte{make([]byte, 70), sample(70)} {
		for n := range 70 {
			for m := range 70 {
				if hmac.Equal(b[:n], b[:m]) != (n == m) {
					t.Errorf("%d and %d bytes", n, m)
				}
			}
		}
	}
}

// P3.1: a byte that differs, wherever it is, doesn't make the comparison shorter. The least of several times is taken, as other work on the machine only makes it longer; one that stopped early would be thousands of times shorter.
func TestEqualLooksAtAll(t *testing.T) {
	const n = 1 << 21
	a := sample(n)
	others := [][]byte{bytes.Clone(a), bytes.Clone(a), bytes.Clone(a), bytes.Clone(a)}
	others[1][0] ^= 1
	others[2][n/16] ^= 0x80
	for i := range others[3] {
		others[3][i] ^= 0xff
	}
	least := make([]time.Duration, len(others))
	for round := range 20 {
		for i, b := range others {
			from := time.Now()
			hmac.Equal(a, b)
			if d := time.Since(from); round == 0 || d < least[i] {
				least[i] = d
			}
		}
	}
	for i := 1; i < len(least); i++ {
		if least[i] < least[0]/4 {
			t.Errorf("comparison %d took %v, that of the same bytes %v", i, least[i], least[0])
		}
	}
}

// R4: neither key, nor texts, nor their list, nor the spare room of any is changed.
func TestArgumentsStay(t *testing.T) {
	for _, n := range []int{0, 1, 32, 63, 64, 65, 100} {
		room, other := sample(n+200), sample(n+201)
		before, otherBefore := bytes.Clone(room), bytes.Clone(other)
		list := [][]byte{room[:n], room[n : n+3], room[:0], {7}, {8}, {9}, {10}}
		hmac.Tag(other[:n], room[:n])
		hmac.Tag(room[:n], room[:n])
		hmac.Tags(other[:n], list[:3])
		hmac.Tags(other[:n], list[:0])
		hmac.Equal(room[:n], other[:n])
		if !bytes.Equal(room, before) || !bytes.Equal(other, otherBefore) {
			t.Errorf("%d bytes: a key or a text was changed", n)
		}
		want := [][]byte{before[:n], before[n : n+3], {}, {7}, {8}, {9}, {10}}
		if !slices.EqualFunc(list, want, bytes.Equal) {
			t.Errorf("%d bytes: the list was changed", n)
		}
	}
}

// R4: what was handed in isn't kept: changed later, it changes no answer.
func TestArgumentsAreNotKept(t *testing.T) {
	key, text := []byte("key"), []byte("text")
	l := [][]byte{text}
	first, firsts := hmac.Tag(key, text), hmac.Tags(key, l)
	kept, keeps := first, firsts
	key[0], text[0], l[0] = 'K', 'T', nil
	wantKey(t, "Tag, kept", first, kept)
	wantKey(t, "Tags, kept", firsts, keeps)
	wantKey(t, "Tag, anew", hmac.Tag([]byte("key"), []byte("text")), kept)
	wantKey(t, "Tags, anew", hmac.Tags([]byte("key"), [][]byte{[]byte("text")}), keeps)
}

// R5: calls know nothing of each other, also side by side.
func TestCallsAreAlone(t *testing.T) {
	var all sync.WaitGroup
	for n := range 40 {
		all.Add(1)
		go func() {
			defer all.Done()
			key, text := sample(3*n), sample(5*n)
			l := [][]byte{text, key}
			for range 50 {
				if hmac.Tag(key, text) != known(key, text) || hmac.Tags(key, l) != known(key, told(l)) || !hmac.Equal(key, sample(3*n)) {
					t.Errorf("key of %d bytes: another answer side by side", len(key))
					return
				}
			}
		}()
	}
	all.Wait()
}

func FuzzTags(f *testing.F) {
	f.Add([]byte("Jefe"), []byte("what do ya want"), []byte(" for nothing?"))
	f.Add([]byte{}, []byte{}, []byte{})
	f.Add(sample(64), sample(64), sample(1))
	f.Add(sample(65), sample(119), sample(120))
	f.Fuzz(func(t *testing.T, key, a, b []byte) {
		wantKey(t, "Tag", hmac.Tag(key, a), known(key, a))
		l := [][]byte{a, b}
		wantKey(t, "Tags", hmac.Tags(key, l), known(key, told(l)))
		if hmac.Equal(a, b) != bytes.Equal(a, b) {
			t.Error("Equal")
		}
	})
}
