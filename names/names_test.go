package names_test

import (
	"math/rand"
	"slices"
	"strconv"
	"strings"
	"sync"
	"testing"
	"unsafe"

	"scrinium/api"
	"scrinium/names"
)

const (
	most    = 24
	foreign = 0xfffd // what a byte counts as that isn't part of a rune
)

// begun is the rune with which s begins, and its bytes; 0 bytes, if s doesn't begin with a rune. It tells runes by their bits, the long way.
func begun(s string) (rune, int) {
	least := []rune{0, 0x80, 0x800, 0x10000}
	for more, first := range []byte{0x00, 0xc0, 0xe0, 0xf0} {
		mask := []byte{0x80, 0xe0, 0xf0, 0xf8}[more]
		if s[0]&mask != first || len(s) < more+1 {
			continue
		}
		r := rune(s[0] &^ mask)
		for _, b := range []byte(s[1 : more+1]) {
			if b&0xc0 != 0x80 {
				return 0, 0
			}
			r = r<<6 | rune(b&0x3f)
		}
		if r < least[more] || r > 0x10ffff || r >= 0xd800 && r <= 0xdfff {
			return 0, 0
		}
		return r, more + 1
	}
	return 0, 0
}

// runesOf are the runes of s, and whether s is a text of UTF-8.
func runesOf(s string) ([]rune, bool) {
	var out []rune
	utf := true
	for s != "" {
		r, n := begun(s)
		if n == 0 {
			r, n, utf = foreign, 1, false
		}
		out = append(out, r)
		s = s[n:]
	}
	return out, utf
}

// isName tells it by the words of the document.
func isName(s string) bool {
	l, utf := runesOf(s)
	if !utf || len(l) < 1 || len(l) > most || l[0] == 0x20 || l[len(l)-1] == 0x20 {
		return false
	}
	return !slices.ContainsFunc(l, func(r rune) bool {
		return r < 0x20 || 0x7f <= r && r <= 0x9f || r == 0x2f || r == 0xfffd
	})
}

// plainOf exchanges the letters byte by byte: no other rune of UTF-8 has one of their bytes.
func plainOf(s string) string {
	b := []byte(s)
	for i, x := range b {
		if at := strings.IndexByte("ABCDEFGHIJKLMNOPQRSTUVWXYZ", x); at >= 0 {
			b[i] = "abcdefghijklmnopqrstuvwxyz"[at]
		}
	}
	return string(b)
}

const themselves = "abcdefghijklmnopqrstuvwxyz0123456789"

func wordOf(s string) string {
	w := ""
	for _, x := range []byte(s) {
		if strings.IndexByte(themselves, x) >= 0 {
			w += string(rune(x))
			continue
		}
		two := strconv.FormatUint(uint64(x)+0x100, 16)
		w += "%" + two[1:]
	}
	return w
}

func ahead(a, b string) bool {
	x, _ := runesOf(a)
	y, _ := runesOf(b)
	return slices.Compare(x, y) < 0
}

func checkName(t *testing.T, s string) {
	t.Helper()
	want, wantE := plainOf(s), api.OK
	if !isName(s) {
		want, wantE = "", api.ErrName
	}
	if got := names.Right(s); got != isName(s) {
		t.Errorf("Right(%q): %v", s, got)
	}
	if got, e := names.Plain(s); got != want || e != wantE {
		t.Errorf("Plain(%q): %q, %v, want %q, %v", s, got, e, want, wantE)
	}
	if l, _ := runesOf(s); names.Runes(s) != len(l) {
		t.Errorf("Runes(%q): %d, want %d", s, names.Runes(s), len(l))
	}
}

func checkWord(t *testing.T, s string) {
	t.Helper()
	w := names.Word(s)
	if want := wordOf(s); w != want {
		t.Errorf("Word(%q): %q, want %q", s, w, want)
	}
	if got, e := names.Text(w); got != s || e != api.OK {
		t.Errorf("Text of Word(%q): %q, %v", s, got, e)
	}
}

// textOf is the text whose word this is, if there is one: each step seeks a byte whose word the word begins with.
func textOf(word string) (string, bool) {
	var text []byte
	for word != "" {
		size := 0
		for x := range 256 {
			if w := wordOf(string([]byte{byte(x)})); strings.HasPrefix(word, w) {
				text = append(text, byte(x))
				size = len(w)
			}
		}
		if size == 0 {
			return "", false
		}
		word = word[size:]
	}
	return string(text), true
}

func checkText(t *testing.T, word string) {
	t.Helper()
	want, is := textOf(word)
	wantE := api.OK
	if !is {
		wantE = api.ErrForm
	}
	if got, e := names.Text(word); got != want || e != wantE {
		t.Errorf("Text(%q): %q, %v, want %q, %v", word, got, e, want, wantE)
	}
}

func checkLess(t *testing.T, a, b string) {
	t.Helper()
	if got := names.Less(a, b); got != ahead(a, b) {
		t.Errorf("Less(%q, %q): %v", a, b, got)
	}
}

// broken are texts with bytes that aren't part of a rune: alone, too long, cut off, halves of a pair, beyond the last rune.
func broken() []string {
	return []string{
		"\x80", "\xbf", "\xff", "\xfe", "a\xff", "\xffa", "a\xffb",
		"\xc0\xaf", "\xc1\x81", "\xe0\x80\xaf", "\xe0\x9f\xbf", "\xf0\x80\x80\xaf", "\xf0\x8f\xbf\xbf",
		"\xc3", "\xe6\xbc", "\xf0\x9f\x98", "\xc3a", "\xe6\xbca", "\xf0\x9f\x98a", "a\xc3", "a\xe6\xbc",
		"\xed\xa0\x80", "\xed\xbf\xbf", "\xed\xa0\xbd\xed\xb8\x80",
		"\xf4\x90\x80\x80", "\xf5\x80\x80\x80", "\xf8\x88\x80\x80\x80",
	}
}

// edges are runes around those that the document names, and around a change of their length.
func edges() []rune {
	return []rune{
		0, 1, 0x1f, 0x20, 0x21, 0x2e, 0x2f, 0x30, 0x39, 0x3a, 0x40, 'A', 'B', 'M', 'Y', 'Z', 0x5b, 0x60, 'a', 'm', 'z', 0x7b,
		0x7e, 0x7f, 0x80, 0x85, 0x9f, 0xa0, 0xa1, 0xc0, 0xe0, 0xe9, 0x130, 0x178, 0x3a3, 0x7ff, 0x800, 0x1e9e, 0x2028, 0x212a,
		0x3000, 0x6f22, 0xd7ff, 0xe000, 0xfeff, 0xff21, 0xfffc, 0xfffd, 0xfffe, 0xffff, 0x10000, 0x10400, 0x1f600, 0x10fffe, 0x10ffff,
	}
}

// mixed is a text of up to n parts: runes, most of them edges, and bytes that aren't part of one.
func mixed(r *rand.Rand, n int) string {
	var s strings.Builder
	for range r.Intn(n + 1) {
		switch r.Intn(8) {
		case 0:
			s.WriteString(broken()[r.Intn(len(broken()))])
		case 1:
			s.WriteByte(byte(r.Intn(256)))
		case 2, 3:
			s.WriteByte(byte('A' + r.Intn(58)))
		default:
			s.WriteRune(edges()[r.Intn(len(edges()))])
		}
	}
	return s.String()
}

// P10.1: the chapter's example, and others told by hand.
func TestNamesByHand(t *testing.T) {
	for s, plain := range map[string]string{
		"Alpha é": "alpha é", "a": "a", "Z": "z", "AZaz09@[`{": "azaz09@[`{", "a b": "a b", "a  b": "a  b",
		"É": "É", "ÀBc Z": "Àbc z", "\u212a": "\u212a", "Σ": "Σ", "İ": "İ", "Ａ": "Ａ", "漢字": "漢字", "😀A": "😀a",
		"\u00a0": "\u00a0", "\u00a0a\u3000": "\u00a0a\u3000", ".": ".", "..": "..", "\\": "\\", "~": "~", "%": "%", "\ufeff": "\ufeff",
		"\uffff": "\uffff", "\U0010ffff": "\U0010ffff", "e\u0301": "e\u0301",
	} {
		if got, e := names.Plain(s); got != plain || e != api.OK || !names.Right(s) {
			t.Errorf("Plain(%q): %q, %v; want %q", s, got, e, plain)
		}
	}
	for _, s := range append(broken(), "", " ", "  ", " a", "a ", " a ", "/", "a/b", "/a", "a/", "\x00", "a\x00", "a\tb", "a\n", "\x1f", "\x7f", "a\u0080", "\u0085", "\u009fa", "\ufffd", "a\ufffdb") {
		if got, e := names.Plain(s); got != "" || e != api.ErrName || names.Right(s) {
			t.Errorf("Plain(%q): %q, %v; Right: %v", s, got, e, names.Right(s))
		}
	}
	for s, want := range map[string]int{"": 0, "a": 1, "é": 1, "漢": 1, "😀": 1, "a\xffé": 3, "\xff\xff": 2, "\ufffd": 1, "\xe6\xbc": 2, "\xe6\xbca": 3, "\xed\xa0\x80": 3, "\xc0\xaf": 2, "\x00/ ": 3, "e\u0301": 2} {
		if got := names.Runes(s); got != want {
			t.Errorf("Runes(%q): %d, want %d", s, got, want)
		}
	}
}

// P10.1: every rune alone; many of them first, in between and last.
func TestEveryRune(t *testing.T) {
	for r := rune(0); r <= 0x10ffff; r++ {
		// Of a half of a pair string makes FFFD, so that its three bytes are put here.
		sign := string(r)
		if r >= 0xd800 && r <= 0xdfff {
			sign = string([]byte{0xe0 | byte(r>>12), 0x80 | byte(r>>6&0x3f), 0x80 | byte(r&0x3f)})
		}
		checkName(t, sign)
		if r < 0x3100 || r%37 == 0 {
			checkName(t, sign+"x")
			checkName(t, "x"+sign+"Y")
			checkName(t, "x"+sign)
		}
		if t.Failed() {
			t.FailNow()
		}
	}
}

// P10.1: 1 to 24 runes, however many bytes they have.
func TestHowManyRunes(t *testing.T) {
	for _, sign := range []string{"a", "A", "é", "漢", "😀"} {
		for n := range 100 {
			s := strings.Repeat(sign, n)
			if got, want := names.Right(s), n >= 1 && n <= 24; got != want {
				t.Errorf("%d times %s: %v", n, sign, got)
			}
			if names.Runes(s) != n {
				t.Errorf("%d times %s: %d", n, sign, names.Runes(s))
			}
			checkName(t, s)
			checkName(t, s+" ")
			checkName(t, " "+s)
			checkName(t, s+"\xff")
			checkName(t, s+"B")
		}
	}
	if api.MaxName != most {
		t.Error("MaxName")
	}
}

// P10.1: what may not be isn't, at any place of a name.
func TestAnyPlace(t *testing.T) {
	bad := append(broken(), "/", "\x00", "\x1f", "\x7f", "\u0080", "\u009f", "\ufffd")
	for n := range most {
		for at := range n + 1 {
			for _, s := range bad {
				s = strings.Repeat("a", at) + s + strings.Repeat("é", n-at)
				if names.Right(s) {
					t.Errorf("Right(%q)", s)
				}
				checkName(t, s)
			}
			inner := strings.Repeat("a", at) + " " + strings.Repeat("é", n-at)
			if got, want := names.Right(inner), at > 0 && at < n; got != want {
				t.Errorf("Right(%q): %v", inner, got)
			}
		}
	}
}

// P10.1: texts by chance.
func TestNamesByChance(t *testing.T) {
	r := rand.New(rand.NewSource(10))
	right := 0
	for range 60000 {
		s := mixed(r, 4)
		checkName(t, s)
		if names.Right(s) {
			right++
		}
		checkName(t, mixed(r, 40))
	}
	for range 20000 {
		s := make([]rune, 1+r.Intn(30))
		for i := range s {
			s[i] = []rune{'A', 'b', 'Z', ' ', 'É', 0x1f600, '~', '-'}[r.Intn(8)]
		}
		checkName(t, string(s))
		if names.Right(string(s)) {
			right++
		}
	}
	if right < 5000 {
		t.Errorf("only %d of them were names", right)
	}
}

// P10.1: a name's plain form is a name that is plain, and as long; two names are one, if they differ in those letters alone.
func TestPlainAgain(t *testing.T) {
	r := rand.New(rand.NewSource(11))
	for range 20000 {
		p, e := names.Plain(mixed(r, 6))
		if e != api.OK {
			continue
		}
		if again, e := names.Plain(p); again != p || e != api.OK {
			t.Errorf("Plain(%q): %q, %v", p, again, e)
		}
		upper := strings.Map(func(r rune) rune {
			if r >= 'a' && r <= 'z' {
				return r - 32
			}
			return r
		}, p)
		if other, e := names.Plain(upper); other != p || e != api.OK {
			t.Errorf("Plain(%q): %q, %v, want %q", upper, other, e, p)
		}
	}
	for _, two := range [][2]string{{"É", "é"}, {"Ａ", "ａ"}, {"\u212a", "K"}, {"İ", "i"}, {"ſ", "s"}, {"é", "e\u0301"}, {"@", "`"}, {"[", "{"}} {
		a, _ := names.Plain(two[0])
		b, _ := names.Plain(two[1])
		if a == b {
			t.Errorf("%q and %q are one", two[0], two[1])
		}
	}
}

// P10.2: the chapter's example, and others told by hand.
func TestWordsByHand(t *testing.T) {
	for s, want := range map[string]string{
		"": "", "a/B": "a%2f%42", "az09": "az09", "AZ": "%41%5a", "%": "%25", "%2f": "%252f", "é": "%c3%a9", "\xff\x00": "%ff%00",
		"`{/:@[": "%60%7b%2f%3a%40%5b", " ~\x7f": "%20%7e%7f", "aZ é0": "a%5a%20%c3%a90", "\n": "%0a", "-_.": "%2d%5f%2e",
	} {
		if got := names.Word(s); got != want {
			t.Errorf("Word(%q): %q, want %q", s, got, want)
		}
		if got, e := names.Text(want); got != s || e != api.OK {
			t.Errorf("Text(%q): %q, %v, want %q", want, got, e, s)
		}
	}
	for _, w := range []string{
		"%", "%4", "%%", "%%41", "%4%", "a%", "a%4", "%zz", "%4g", "%g4", "%4A", "%4a%4A", "%C3%A9", "%c3%A9", "%2F", "%2f%", "%2f%2",
		"%61", "%7a", "%30", "%39", "%6d", "%35", "a%61", "A", "Z", " ", "/", "aB", "a b", "é", "\xff", "%\xff\xff", "%2f\x00", "%+1", "% 1", "%-1", "%0x", "%4_", "2f%",
	} {
		if got, e := names.Text(w); got != "" || e != api.ErrForm {
			t.Errorf("Text(%q): %q, %v", w, got, e)
		}
	}
}

// P10.2, P10.4: every byte and every two bytes, as a text.
func TestEveryText(t *testing.T) {
	for x := range 256 {
		checkWord(t, string([]byte{byte(x)}))
		for y := range 256 {
			checkWord(t, string([]byte{byte(x), byte(y)}))
		}
	}
	if s, want := names.Word("\x00\x0f\x10\xf0"), "%00%0f%10%f0"; s != want {
		t.Errorf("%q, want %q", s, want)
	}
}

// P10.2: every byte and every two bytes, as a word; all that stands behind a %.
func TestEveryWord(t *testing.T) {
	checkText(t, "")
	for x := range 256 {
		checkText(t, string([]byte{byte(x)}))
		for y := range 256 {
			two := string([]byte{byte(x), byte(y)})
			if _, e := names.Text(two); (e == api.OK) != (strings.Trim(two, themselves) == "") {
				t.Errorf("Text(%q): %v", two, e)
			}
			checkThree(t, x, y)
		}
	}
}

// checkThree asks for the text of % and the two bytes x and y.
func checkThree(t *testing.T, x, y int) {
	const hexes = "0123456789abcdef"
	high, low := strings.IndexByte(hexes, byte(x)), strings.IndexByte(hexes, byte(y))
	told := string([]byte{byte(high<<4 | low&15)})
	want, wantE := told, api.OK
	if high < 0 || low < 0 || strings.Contains(themselves, told) {
		want, wantE = "", api.ErrForm
	}
	w := string([]byte{'%', byte(x), byte(y)})
	if got, e := names.Text(w); got != want || e != wantE {
		t.Errorf("Text(%q): %q, %v, want %q, %v", w, got, e, want, wantE)
	}
	if got, e := names.Text("0" + w + "z"); e != wantE || e == api.OK && got != "0"+want+"z" {
		t.Errorf("Text(%q) within: %q, %v", w, got, e)
	}
}

// P10.2, P10.4: texts and words by chance; a word that is cut off or changed.
func TestWordsByChance(t *testing.T) {
	r := rand.New(rand.NewSource(12))
	for range 3000 {
		s := mixed(r, 12)
		checkWord(t, s)
		w := []byte(names.Word(s))
		if len(w) == 0 {
			continue
		}
		checkText(t, string(w[:r.Intn(len(w))]))
		w[r.Intn(len(w))] = "%%09afgzAFZ /\xff"[r.Intn(14)]
		checkText(t, string(w))
	}
	for range 3000 {
		w := make([]byte, r.Intn(8))
		for i := range w {
			w[i] = "%%%%2f4az0A"[r.Intn(11)]
		}
		checkText(t, string(w))
	}
}

// P10.3: told by hand.
func TestLessByHand(t *testing.T) {
	rising := []string{
		"", "\x00", "\x00\x00", "\x01", " ", "!", "0", "A", "Z", "Za", "a", "a\x00", "a ", "aa", "ab", "ab\x00", "abc", "b", "z", "zz", "é", "é\x00", "漢", "\ud7ff", "\ue000", "\ufffc",
		"\ufffd", "\ufffda", "\ufffd\ufffd", "\ufffe", "\uffff", "\U00010000", "😀", "\U0010ffff", "\U0010ffff\x00",
	}
	for i, a := range rising {
		for j, b := range rising {
			if got := names.Less(a, b); got != (i < j) {
				t.Errorf("Less(%q, %q): %v", a, b, got)
			}
		}
	}
}

// P10.3: a byte that isn't part of a rune counts as FFFD: it stands where that one stands, behind most runes and ahead of the last ones.
func TestLessBroken(t *testing.T) {
	for _, s := range []string{"\x80", "\xc3", "\xed", "\xf4", "\xff"} {
		if names.Less(s, "\ufffd") || names.Less("\ufffd", s) {
			t.Errorf("%q and FFFD", s)
		}
		if !names.Less("\ufffc", s) || names.Less(s, "\ufffc") || !names.Less(s, "\ufffe") || names.Less("\ufffe", s) || !names.Less(s, "😀") || names.Less("😀", s) {
			t.Errorf("%q and those about FFFD", s)
		}
		if names.Less(s+"b", "\ufffda") || !names.Less("\ufffda", s+"b") || !names.Less(s, "\ufffd\x00") || names.Less("\ufffd\x00", s) {
			t.Errorf("%q and what is behind", s)
		}
	}
	// The shorter one is the one of fewer runes, not of fewer bytes.
	if !names.Less("\ufffd", "\xff\xff") || names.Less("\xff\xff", "\ufffd") {
		t.Error("two bytes and FFFD")
	}
	if names.Less("\xe6\xbc", "\ufffd\ufffd") || names.Less("\ufffd\ufffd", "\xe6\xbc") || !names.Less("漢", "\xe6\xbc") || names.Less("\xe6\xbc", "漢") {
		t.Error("a rune that is cut off")
	}
}

// P10.3: by chance, texts that begin alike among them.
func TestLessByChance(t *testing.T) {
	r := rand.New(rand.NewSource(13))
	for range 60000 {
		a, b := mixed(r, 3), mixed(r, 3)
		checkLess(t, a, b)
		checkLess(t, a, a)
		checkLess(t, a+b, a)
		checkLess(t, a, a+b)
		checkLess(t, b+a, b+mixed(r, 2))
	}
	for _, a := range edges() {
		for _, b := range edges() {
			checkLess(t, string(a), string(b))
			checkLess(t, "x"+string(a), "x"+string(b))
			checkLess(t, string(a)+"z", string(b)+"a")
		}
	}
}

// P10.4: of two texts of UTF-8 that aren't the same one stands ahead, not both; and what is ahead of one ahead is ahead.
func TestOneIsAhead(t *testing.T) {
	r := rand.New(rand.NewSource(14))
	var texts []string
	for len(texts) < 250 {
		l := make([]rune, r.Intn(4))
		for i := range l {
			l[i] = edges()[r.Intn(len(edges()))]
		}
		texts = append(texts, string(l))
	}
	for _, a := range texts {
		for _, b := range texts {
			x, y := names.Less(a, b), names.Less(b, a)
			if a != b && x == y || a == b && (x || y) {
				t.Errorf("%q and %q: %v, %v", a, b, x, y)
			}
			// The bytes of UTF-8 stand as their runes do.
			if x != (a < b) {
				t.Errorf("Less(%q, %q): %v", a, b, x)
			}
		}
	}
}

// P10.4: no two texts have one word.
func TestWordsDiffer(t *testing.T) {
	r := rand.New(rand.NewSource(15))
	texts := map[string]string{}
	for range 50000 {
		s := mixed(r, 3)
		w := names.Word(s)
		if other, is := texts[w]; is && other != s {
			t.Errorf("%q and %q: %q", s, other, w)
		}
		texts[w] = s
	}
}

// R1: great texts are gone through, and end.
func TestGreatTexts(t *testing.T) {
	const n = 1 << 20
	for _, sign := range []string{"a", "A", "é", "\xff", "%", " ", "\x00"} {
		s := strings.Repeat(sign, n)
		if p, e := names.Plain(s); names.Right(s) || p != "" || e != api.ErrName {
			t.Errorf("%q: a name", sign)
		}
		if got, want := names.Runes(s), n; got != want {
			t.Errorf("%q: %d runes", sign, got)
		}
		w := names.Word(s)
		if w != strings.Repeat(wordOf(sign), n) {
			t.Errorf("%q: word of %d bytes", sign, len(w))
		}
		if got, e := names.Text(w); got != s || e != api.OK {
			t.Errorf("%q: text of %d bytes, %v", sign, len(got), e)
		}
		if got, e := names.Text(w + "%"); got != "" || e != api.ErrForm {
			t.Errorf("%q: text of %d bytes, %v", sign, len(got), e)
		}
		if names.Less(s, s) || !names.Less(s, s+"a") || names.Less(s+"a", s) {
			t.Errorf("%q: Less", sign)
		}
	}
}

// overlap tells whether two texts have bytes of one memory.
func overlap(a, b string) bool {
	if a == "" || b == "" {
		return false
	}
	x, y := uintptr(unsafe.Pointer(unsafe.StringData(a))), uintptr(unsafe.Pointer(unsafe.StringData(b)))
	return x < y+uintptr(len(b)) && y < x+uintptr(len(a))
}

// R4: what is answered is new memory, also where it is as what was handed in.
func TestNewMemory(t *testing.T) {
	for _, s := range []string{"a", "abc", "0", "longer than a few", "ABC", "é"} {
		s = strings.Clone(s)
		p, _ := names.Plain(s)
		again, _ := names.Plain(s)
		if overlap(p, s) || overlap(p, again) {
			t.Errorf("Plain(%q) shares memory", s)
		}
		w := names.Word(s)
		if overlap(w, s) || overlap(w, names.Word(s)) {
			t.Errorf("Word(%q) shares memory", s)
		}
		text, _ := names.Text(w)
		other, _ := names.Text(w)
		if text != s || overlap(text, w) || overlap(text, other) {
			t.Errorf("Text(%q) shares memory", w)
		}
	}
}

// R5: the same again, whatever was asked before, and at the same time.
func TestSameAgain(t *testing.T) {
	r := rand.New(rand.NewSource(16))
	texts := make([]string, 200)
	for i := range texts {
		texts[i] = mixed(r, 8)
	}
	var all sync.WaitGroup
	for range 8 {
		all.Go(func() {
			for i, s := range texts {
				checkName(t, s)
				checkWord(t, s)
				checkLess(t, s, texts[len(texts)-1-i])
			}
		})
	}
	all.Wait()
}

func FuzzNames(f *testing.F) {
	for _, s := range append(broken(), "", "a/B", "Alpha é", "a%2f%42", "%61") {
		f.Add(s, "a")
	}
	f.Fuzz(func(t *testing.T, a, b string) {
		checkName(t, a)
		checkWord(t, a)
		checkText(t, a)
		checkLess(t, a, b)
		checkLess(t, b, a)
	})
}
