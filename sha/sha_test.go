package sha_test

import (
	"bytes"
	"crypto/sha256"
	"encoding/hex"
	"math/rand"
	"slices"
	"strings"
	"sync"
	"testing"

	"scrinium/api"
	"scrinium/sha"
)

func sample(n int) []byte {
	b := make([]byte, n)
	rand.New(rand.NewSource(int64(n))).Read(b)
	return b
}

func wantKey(t *testing.T, what string, got, want api.Key) {
	t.Helper()
	if got != want {
		t.Errorf("%s: %x, want %x", what, got, want)
	}
}

// P2.1: the standard's own examples, and the chapter's.
func TestSumKnown(t *testing.T) {
	for _, c := range []struct{ text, want string }{
		{"", "e3b0c44298fc1c149afbf4c8996fb92427ae41e4649b934ca495991b7852b855"},
		{"a", "ca978112ca1bbdcafac231b39a23dc4da786eff8147c4e72b9807785afee48bb"},
		{"abc", "ba7816bf8f01cfea414140de5dae2223b00361a396177a9cb410ff61f20015ad"},
		{"abcdbcdecdefdefgefghfghighijhijkijkljklmklmnlmnomnopnopq", "248d6a61d20638b8e5c026930c3e6039a33ce45964ff2167f6ecedd419db06c1"},
		{"abcdefghbcdefghicdefghijdefghijkefghijklfghijklmghijklmnhijklmnoijklmnopjklmnopqklmnopqrlmnopqrsmnopqrstnopqrstu", "cf5b16a778af8380036ce59e7b0492370b249b11e8f07a51afac45037afee9d1"},
		{strings.Repeat("a", 1000000), "cdc76e5c9914fb9281a1c7e284d73e67f1809a48a497200e046d39ccc7112cd0"},
	} {
		got := sha.Sum([]byte(c.text))
		if hex.EncodeToString(got[:]) != c.want {
			t.Errorf("text of %d bytes: %x, want %s", len(c.text), got, c.want)
		}
	}
}

// P2.1: every length around the edges of a block, where what stands behind the text needs one block more, and long ones.
func TestSumLengths(t *testing.T) {
	lengths := []int{api.MaxSecret, 4095, 4096, 4097, api.MaxBytes - 1, api.MaxBytes, api.MaxBytes + 1, 200000}
	for n := range 400 {
		lengths = append(lengths, n)
	}
	for _, n := range lengths {
		for _, b := range [][]byte{make([]byte, n), bytes.Repeat([]byte{0xff}, n), bytes.Repeat([]byte{0x80}, n), sample(n)} {
			if got, want := sha.Sum(b), api.Key(sha256.Sum256(b)); got != want {
				t.Errorf("text of %d bytes: %x, want %x", n, got, want)
			}
		}
	}
}

// P2.1: a text's length is told in eight bytes, also where its bits need more than four of them.
func TestSumsLong(t *testing.T) {
	if testing.Short() {
		t.Skip("2^29 bytes")
	}
	part := sample(1 << 20)
	h := sha256.New()
	var l [][]byte
	for range 1 << 9 {
		l = append(l, part)
		h.Write(part)
	}
	wantKey(t, "2^29 bytes", sha.Sums(l), api.Key(h.Sum(nil)))
}

// P2.1, R3: nil and empty are one.
func TestNilAndEmpty(t *testing.T) {
	want := api.Key(sha256.Sum256(nil))
	wantKey(t, "Sum(nil)", sha.Sum(nil), want)
	wantKey(t, "Sum(empty)", sha.Sum([]byte{}), want)
	wantKey(t, "Sums(nil)", sha.Sums(nil), want)
	wantKey(t, "Sums(empty)", sha.Sums([][]byte{}), want)
	wantKey(t, "Sums(nil, empty, nil)", sha.Sums([][]byte{nil, {}, nil}), want)
}

// P2.1: the texts stand in their order, and nothing stands between them.
func TestSumsOrder(t *testing.T) {
	ab := sha.Sums([][]byte{[]byte("a"), []byte("b")})
	wantKey(t, "a, b", ab, sha.Sum([]byte("ab")))
	wantKey(t, "b, a", sha.Sums([][]byte{[]byte("b"), []byte("a")}), sha.Sum([]byte("ba")))
	wantKey(t, "nil, a, nil, b, nil", sha.Sums([][]byte{nil, []byte("a"), {}, []byte("b"), nil}), ab)
	if ab == sha.Sum([]byte("ba")) {
		t.Error("ab and ba have one digest")
	}
}

// P2.2: cut once, at every place, also around whole blocks.
func TestSumsCutOnce(t *testing.T) {
	for _, n := range []int{1, 2, 55, 56, 63, 64, 65, 119, 120, 127, 128, 129, 200} {
		b := sample(n)
		want := api.Key(sha256.Sum256(b))
		for i := range n + 1 {
			if got := sha.Sums([][]byte{b[:i], b[i:]}); got != want {
				t.Errorf("%d bytes, cut at %d: %x, want %x", n, i, got, want)
			}
		}
	}
}

// P2.2: cut into pieces of one length, from single bytes up.
func TestSumsEvenPieces(t *testing.T) {
	b := sample(1000)
	want := api.Key(sha256.Sum256(b))
	for size := 1; size <= 130; size++ {
		if got := sha.Sums(slices.Collect(slices.Chunk(b, size))); got != want {
			t.Errorf("pieces of %d: %x, want %x", size, got, want)
		}
	}
}

// P2.2: cut anyhow, empty pieces among them.
func TestSumsCutAnyhow(t *testing.T) {
	r := rand.New(rand.NewSource(2))
	for range 500 {
		b := sample(r.Intn(700))
		var l [][]byte
		for left := b; len(left) > 0; {
			n := r.Intn(min(len(left), 1+r.Intn(150)) + 1)
			l = append(l, left[:n])
			left = left[n:]
		}
		wantKey(t, "pieces", sha.Sums(l), api.Key(sha256.Sum256(b)))
	}
}

// R4: neither the texts, nor their list, nor the spare room of either is changed.
func TestArgumentsStay(t *testing.T) {
	for _, n := range []int{0, 1, 55, 56, 64, 100} {
		room := sample(n + 200)
		before := bytes.Clone(room)
		list := [][]byte{room[:n], room[n : n+3], room[:0], {7}, {8}}
		sha.Sum(room[:n])
		sha.Sums(list[:3])
		if !bytes.Equal(room, before) {
			t.Errorf("%d bytes: a text was changed", n)
		}
		want := [][]byte{before[:n], before[n : n+3], {}, {7}, {8}}
		if !slices.EqualFunc(list, want, bytes.Equal) {
			t.Errorf("%d bytes: the list was changed", n)
		}
	}
}

// R4: a digest stays as it was, whatever becomes of the text.
func TestAnswersStay(t *testing.T) {
	b := []byte("abc")
	got := sha.Sums([][]byte{b})
	b[0] = 'x'
	wantKey(t, "behind a change", got, api.Key(sha256.Sum256([]byte("abc"))))
	got[0]++
	wantKey(t, "asked anew", sha.Sum([]byte("abc")), api.Key(sha256.Sum256([]byte("abc"))))
}

// R5: what was asked ahead, or is asked beside it, changes no digest.
func TestSameAgain(t *testing.T) {
	var asked sync.WaitGroup
	for n := range 150 {
		asked.Add(1)
		go func() {
			defer asked.Done()
			b := sample(n)
			want := api.Key(sha256.Sum256(b))
			for range 3 {
				if sha.Sum(b) != want || sha.Sums([][]byte{b[:n/3], b[n/3:]}) != want {
					t.Errorf("%d bytes: another digest", n)
				}
			}
		}()
	}
	asked.Wait()
}

func FuzzSums(f *testing.F) {
	f.Add([]byte{}, 0, 0)
	f.Add([]byte("abc"), 1, 2)
	f.Add(make([]byte, 56), 55, 56)
	f.Add(make([]byte, 130), 64, 128)
	f.Fuzz(func(t *testing.T, b []byte, i, j int) {
		i = min(max(i, 0), len(b))
		j = min(max(j, i), len(b))
		want := api.Key(sha256.Sum256(b))
		wantKey(t, "Sum", sha.Sum(b), want)
		wantKey(t, "Sums", sha.Sums([][]byte{b[:i], b[i:j], b[j:]}), want)
	})
}
