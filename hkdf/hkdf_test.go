package hkdf_test

import (
	"bytes"
	stdhkdf "crypto/hkdf"
	"crypto/sha256"
	"encoding/binary"
	"encoding/hex"
	"math"
	"math/rand"
	"strings"
	"sync"
	"testing"
	"unicode/utf8"

	"scrinium/api"
	"scrinium/hkdf"
	"scrinium/hmac"
)

const most = 8160

func sample(n int) []byte {
	b := make([]byte, n)
	rand.New(rand.NewSource(int64(n))).Read(b)
	return b
}

func counting(from, to int) []byte {
	var b []byte
	for i := from; i <= to; i++ {
		b = append(b, byte(i))
	}
	return b
}

func wantKey(t *testing.T, what string, got, want api.Key) {
	t.Helper()
	if got != want {
		t.Errorf("%s: %x, want %x", what, got, want)
	}
}

// extracted, expanded and used are what another program makes of the same.
func extracted(t *testing.T, salt, text []byte) api.Key {
	t.Helper()
	b, err := stdhkdf.Extract(sha256.New, text, salt)
	if err != nil {
		t.Fatal(err)
	}
	return api.Key(b)
}

func expanded(t *testing.T, key api.Key, info []byte, n int) []byte {
	t.Helper()
	b, err := stdhkdf.Expand(sha256.New, key[:], string(info), n)
	if err != nil {
		t.Fatal(err)
	}
	return b
}

func used(t *testing.T, master api.Key, name string, gen uint32) api.Key {
	t.Helper()
	info := binary.BigEndian.AppendUint32([]byte(name+"\x00"), gen)
	return api.Key(expanded(t, extracted(t, []byte("scrinium"), master[:]), info, 32))
}

func expand(t *testing.T, key api.Key, info []byte, n int) []byte {
	t.Helper()
	b, e := hkdf.Expand(key, info, n)
	if e != api.OK || len(b) != n {
		t.Fatalf("Expand of %d bytes: %d bytes, %v", n, len(b), e)
	}
	return b
}

func use(t *testing.T, master api.Key, name string, gen int) api.Key {
	t.Helper()
	k, e := hkdf.Use(master, name, gen)
	if e != api.OK {
		t.Fatalf("Use of %q, %d: %v", name, gen, e)
	}
	return k
}

func wantNoUse(t *testing.T, master api.Key, name string, gen int, want api.Errno) {
	t.Helper()
	if k, e := hkdf.Use(master, name, gen); e != want || k != (api.Key{}) {
		t.Errorf("Use of %q, %d: %x, %v, want %v", name, gen, k, e, want)
	}
}

// P4.1: the chapter's example, and the others of RFC 5869.
func TestKnown(t *testing.T) {
	for i, c := range []struct {
		text, salt, info []byte
		extracted        string
		expanded         string
	}{
		{
			bytes.Repeat([]byte{0x0b}, 22), counting(0x00, 0x0c), counting(0xf0, 0xf9),
			"077709362c2e32df0ddc3f0dc47bba6390b6c73bb50f9c3122ec844ad7c2b3e5",
			"3cb25f25faacd57a90434f64d0362f2a2d2d0a90cf1a5a4c5db02d56ecc4c5bf34007208d5b887185865",
		},
		{
			counting(0x00, 0x4f), counting(0x60, 0xaf), counting(0xb0, 0xff),
			"06a6b88c5853361a06104c9ceb35b45cef760014904671014a193f40c15fc244",
			"b11e398dc80327a1c8e7f78c596a49344f012eda2d4efad8a050cc4c19afa97c59045a99cac7827271cb41c65e590e09da3275600c2f09b8367793a9aca3db71cc30c58179ec3e87c14c01d5c1f3434f1d87",
		},
		{
			bytes.Repeat([]byte{0x0b}, 22), nil, nil,
			"19ef24a32c717b167f33a91d6f648bdf96596776afdb6377ac434c1c293ccb04",
			"8da4e775a563c18f715f802a063c5a31b8a11f5c5ee1879ec3454e5f3c738d2d9d201395faa4b61a96c8",
		},
	} {
		key := hkdf.Extract(c.salt, c.text)
		if hex.EncodeToString(key[:]) != c.extracted {
			t.Errorf("test %d: extracted %x, want %s", i+1, key, c.extracted)
		}
		b := expand(t, key, c.info, len(c.expanded)/2)
		if hex.EncodeToString(b) != c.expanded {
			t.Errorf("test %d: expanded %x, want %s", i+1, b, c.expanded)
		}
	}
}

// P4.1: salts and texts of every length around the edges of a block.
func TestExtractLengths(t *testing.T) {
	for n := range 140 {
		for _, m := range []int{0, 1, 32, 55, 56, 64, 200} {
			wantKey(t, "salt", hkdf.Extract(sample(n), sample(m)), extracted(t, sample(n), sample(m)))
			wantKey(t, "text", hkdf.Extract(sample(m), sample(n)), extracted(t, sample(m), sample(n)))
		}
	}
	long := sample(api.MaxBytes + 1)
	wantKey(t, "long", hkdf.Extract(long, long), extracted(t, long, long))
}

// P4.1, R3: an empty salt is 32 bytes 0, and nil is empty; the salt is the key of the tag, not its text.
func TestExtractSalt(t *testing.T) {
	text := []byte("text")
	want := hmac.Tag(make([]byte, 32), text)
	wantKey(t, "nil", hkdf.Extract(nil, text), want)
	wantKey(t, "empty", hkdf.Extract([]byte{}, text), want)
	wantKey(t, "nil text", hkdf.Extract(text, nil), hkdf.Extract(text, []byte{}))
	wantKey(t, "salt and text", hkdf.Extract([]byte("salt"), text), hmac.Tag([]byte("salt"), text))
	if hkdf.Extract([]byte("salt"), text) == hkdf.Extract(text, []byte("salt")) {
		t.Error("salt and text stand for each other")
	}
}

// P4.1: each count of bytes up to some tags, and around the edges of each further tag.
func TestExpandLengths(t *testing.T) {
	key, info := hkdf.Extract(nil, []byte("key")), []byte("info")
	whole := expanded(t, key, info, most)
	counts := []int{most - 1, most}
	for n := range 200 {
		counts = append(counts, n)
	}
	for tags := 6; tags < 255; tags++ {
		counts = append(counts, 32*tags-1, 32*tags, 32*tags+1)
	}
	for _, n := range counts {
		if got := expand(t, key, info, n); !bytes.Equal(got, whole[:n]) {
			t.Errorf("%d bytes: %x, want %x", n, got, whole[:n])
		}
	}
}

// P4.1: each tag is made of the one ahead, the info and its number, by the key.
func TestExpandByHand(t *testing.T) {
	key, info := api.Key{7, 31: 9}, []byte{0, 1, 0xff}
	got := expand(t, key, info, most)
	var last []byte
	for i := 1; i <= 255; i++ {
		text := append(append(bytes.Clone(last), info...), byte(i))
		tag := hmac.Tag(key[:], text)
		last = tag[:]
		if here := got[32*(i-1) : 32*i]; !bytes.Equal(here, last) {
			t.Fatalf("tag %d: %x, want %x", i, here, last)
		}
	}
}

// P4.1, R3: infos of every length around the edges of a block; nil and empty are one.
func TestExpandInfos(t *testing.T) {
	for n := range 140 {
		key := api.Key(sample(32 + n)[n:])
		if got, want := expand(t, key, sample(n), 100), expanded(t, key, sample(n), 100); !bytes.Equal(got, want) {
			t.Errorf("info of %d bytes: %x, want %x", n, got, want)
		}
	}
	long := sample(api.MaxBytes + 1)
	if !bytes.Equal(expand(t, api.Key{}, long, 70), expanded(t, api.Key{}, long, 70)) {
		t.Error("a long info")
	}
	if !bytes.Equal(expand(t, api.Key{1}, nil, 70), expand(t, api.Key{1}, []byte{}, 70)) {
		t.Error("nil and empty infos are unlike")
	}
}

// P4.1, R1, R2: what may not be asked for, and its edges.
func TestExpandBounds(t *testing.T) {
	for _, n := range []int{-1, -32, math.MinInt, math.MinInt + 1, most + 1, most + 32, 1 << 16, 1 << 20, math.MaxInt - 30, math.MaxInt} {
		if b, e := hkdf.Expand(api.Key{1}, []byte("info"), n); e != api.ErrArg || len(b) != 0 {
			t.Errorf("%d bytes: %d bytes, %v, want ErrArg", n, len(b), e)
		}
	}
	for _, n := range []int{0, 1, most - 1, most} {
		expand(t, api.Key{1}, []byte("info"), n)
	}
}

// P4.2: fewer bytes are the first ones of more, whatever they are expanded of.
func TestFewerAreFirst(t *testing.T) {
	r := rand.New(rand.NewSource(4))
	for range 200 {
		key, info := api.Key(sample(32 + r.Intn(99))[:32]), sample(r.Intn(99))
		more := r.Intn(1000)
		fewer := r.Intn(more + 1)
		if !bytes.HasPrefix(expand(t, key, info, more), expand(t, key, info, fewer)) {
			t.Errorf("%d bytes aren't the first of %d", fewer, more)
		}
	}
	all := expand(t, api.Key{3}, nil, most)
	for n := 0; n <= most; n += 97 {
		if !bytes.Equal(expand(t, api.Key{3}, nil, n), all[:n]) {
			t.Errorf("%d bytes aren't the first of all", n)
		}
	}
}

// P4.1: the key of a use, of ordinary names and of the bounds of generations.
func TestUse(t *testing.T) {
	names := []string{"seal", "a", " ", "~", "a b", " a ", "0", "A~!", strings.Repeat("~", 40), strings.Repeat(" ", 39)}
	gens := []uint32{0, 1, 2, 255, 256, 1<<16 - 1, 1 << 16, 1<<24 + 2, 1<<31 - 1, 1 << 31, 1<<32 - 2, 1<<32 - 1}
	for _, master := range []api.Key{{}, {1}, {31: 0xff}, api.Key(sample(32))} {
		for _, name := range names {
			for _, gen := range gens {
				wantKey(t, name, use(t, master, name, int(gen)), used(t, master, name, gen))
			}
		}
	}
}

// P4.1: each sign of a name counts, from space to ~, wherever it stands; all others make it none.
func TestUseSigns(t *testing.T) {
	master := api.Key{5}
	try := func(sign string, right bool) {
		for _, name := range []string{sign, "ab" + sign, sign + "ab", "a" + sign + "b"} {
			if right {
				wantKey(t, name, use(t, master, name, 3), used(t, master, name, 3))
			} else {
				wantNoUse(t, master, name, 3, api.ErrName)
			}
		}
	}
	for x := range 256 {
		try(string([]byte{byte(x)}), x >= 0x20 && x <= 0x7e)
		try(string(rune(x)), x >= 0x20 && x <= 0x7e)
	}
	// Their lowest bytes are those of signs that may be.
	for _, sign := range []rune{0x100, 0x120, 0x141, 0x17e, 0x7ff, 0x800, 0x2041, 0xff41, utf8.RuneError, 0x10041, 0x1f600, utf8.MaxRune} {
		try(string(sign), false)
	}
	for _, torn := range []string{"\xc3", "\xe2\x82", "\xf0\x9f\x98", "\xed\xa0\x80", "\xc1\x81", "\xf4\x90\x80\x80", "\xfe"} {
		try(torn, false)
	}
}

// P4.1: a name has 1 to 40 signs.
func TestUseLengths(t *testing.T) {
	master := api.Key{6}
	for n := 1; n <= 40; n++ {
		name := strings.Repeat("x", n)
		wantKey(t, name, use(t, master, name, 0), used(t, master, name, 0))
	}
	for _, n := range []int{0, 41, 42, 80, 255, 256, 257, 296, 65536 + 1, 1 << 20} {
		wantNoUse(t, master, strings.Repeat("x", n), 0, api.ErrName)
	}
	wantNoUse(t, master, strings.Repeat("é", 20), 0, api.ErrName)
	wantNoUse(t, master, strings.Repeat("é", 40), 0, api.ErrName)
	wantNoUse(t, master, strings.Repeat("x", 40)+"\n", 0, api.ErrName)
	wantNoUse(t, master, strings.Repeat("x", 40)+"\x00", 0, api.ErrName)
}

// P4.1, R1, R2: generations that may not be; a name that may not be is told first.
func TestUseBounds(t *testing.T) {
	master := api.Key{7}
	for _, gen := range []int{-1, -2, -256, -1 << 31, -1 << 32, -1<<32 + 1, math.MinInt, math.MinInt + 1, 1 << 32, 1<<32 + 1, 1 << 40, math.MaxInt} {
		wantNoUse(t, master, "seal", gen, api.ErrArg)
		wantNoUse(t, master, "", gen, api.ErrName)
		wantNoUse(t, master, "é", gen, api.ErrName)
		wantNoUse(t, master, strings.Repeat("x", 41), gen, api.ErrName)
	}
}

// P4.1: unlike masters, names and generations have keys of their own, none of which is the master's.
func TestUsesUnlike(t *testing.T) {
	met := map[api.Key]string{}
	for _, master := range []api.Key{{}, {1}, {31: 1}} {
		met[master] = "a master key"
		met[hkdf.Extract([]byte("scrinium"), master[:])] = "what is extracted"
	}
	for _, master := range []api.Key{{}, {1}, {31: 1}} {
		for _, name := range []string{"a", "b", "ab", "ba", "A", "a ", " a", "aa", "0", "00"} {
			for _, gen := range []int{0, 1, 256, 0x61, 0x61 << 24, 0x30 << 24, 1 << 24, 1<<32 - 1} {
				k := use(t, master, name, gen)
				if met[k] != "" {
					t.Errorf("%q, %d: the key of %s", name, gen, met[k])
				}
				met[k] = name
			}
		}
	}
}

// R4: neither what is handed in nor its spare room is changed.
func TestArgumentsStay(t *testing.T) {
	for _, n := range []int{0, 1, 31, 32, 33, 64, 65, 100} {
		room := sample(n + 100)
		before := bytes.Clone(room)
		hkdf.Extract(room[:n], room[n:n+3])
		hkdf.Extract(room[n:n+3], room[:n])
		hkdf.Expand(api.Key{1}, room[:n], 100)
		hkdf.Expand(api.Key{1}, room[:n], -1)
		if !bytes.Equal(room, before) {
			t.Errorf("%d bytes: an argument was changed", n)
		}
	}
}

// R4: an answer shares no memory with an argument or an earlier answer, and its spare room tells no bytes that weren't asked for.
func TestAnswersStay(t *testing.T) {
	info := []byte("info")
	for _, n := range []int{0, 1, 31, 32, 33, 100, most} {
		want := expanded(t, api.Key{1}, []byte("info"), n)
		got := expand(t, api.Key{1}, info, n)
		again := expand(t, api.Key{1}, info, n)
		info[0] = 'x'
		again = again[:cap(again)]
		for i := range again {
			again[i] ^= 0xff
		}
		if !bytes.Equal(got, want) {
			t.Errorf("%d bytes: an answer was changed", n)
		}
		info[0] = 'i'
		if !bytes.Equal(expand(t, api.Key{1}, info, n), want) {
			t.Errorf("%d bytes: another answer", n)
		}
		more := expanded(t, api.Key{1}, info, most)
		if spare := got[n:cap(got)]; len(spare) > 0 && n < most && spare[0] == more[n] {
			t.Errorf("%d bytes: the next one stands in the spare room", n)
		}
	}
}

// R5: what was asked ahead, or is asked beside it, changes no answer.
func TestSameAgain(t *testing.T) {
	var asked sync.WaitGroup
	for n := range 60 {
		key, info := api.Key(sample(32 + n)[:32]), sample(n)
		first, last := expanded(t, key, info, 3*n), used(t, key, "use", uint32(n))
		middle := extracted(t, info, key[:])
		asked.Add(1)
		go func() {
			defer asked.Done()
			for range 3 {
				b, e := hkdf.Expand(key, info, 3*n)
				k, f := hkdf.Use(key, "use", n)
				if !bytes.Equal(b, first) || e != api.OK || k != last || f != api.OK || hkdf.Extract(info, key[:]) != middle {
					t.Errorf("%d: another answer", n)
				}
				hkdf.Use(key, "", n)
				hkdf.Expand(key, info, -n)
			}
		}()
	}
	asked.Wait()
}

func FuzzExpand(f *testing.F) {
	f.Add([]byte{}, []byte{}, []byte{}, 0)
	f.Add([]byte("salt"), []byte("text"), []byte("info"), 42)
	f.Add([]byte("salt"), []byte("text"), []byte("info"), most)
	f.Add([]byte("salt"), []byte("text"), []byte("info"), most+1)
	f.Add([]byte("salt"), []byte("text"), []byte("info"), -1)
	f.Fuzz(func(t *testing.T, salt, text, info []byte, n int) {
		key := hkdf.Extract(salt, text)
		wantKey(t, "Extract", key, extracted(t, salt, text))
		b, e := hkdf.Expand(key, info, n)
		if n < 0 || n > most {
			if e != api.ErrArg || len(b) != 0 {
				t.Errorf("%d: %d bytes, %v", n, len(b), e)
			}
		} else if e != api.OK || !bytes.Equal(b, expanded(t, key, info, n)) {
			t.Errorf("%d: %x, %v", n, b, e)
		}
	})
}

func FuzzUse(f *testing.F) {
	f.Add([]byte{}, "seal", 0)
	f.Add([]byte("master"), "", -1)
	f.Add([]byte("master"), "é", 1<<32)
	f.Add([]byte("master"), "a", 1<<32-1)
	f.Fuzz(func(t *testing.T, m []byte, name string, gen int) {
		master := hkdf.Extract(nil, m)
		signs := strings.IndexFunc(name, func(r rune) bool { return r < 0x20 || r > 0x7e })
		switch {
		case signs >= 0 || len(name) < 1 || len(name) > 40:
			wantNoUse(t, master, name, gen, api.ErrName)
		case gen < 0 || gen > math.MaxUint32:
			wantNoUse(t, master, name, gen, api.ErrArg)
		default:
			wantKey(t, name, use(t, master, name, gen), used(t, master, name, uint32(gen)))
		}
	})
}
