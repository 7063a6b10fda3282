package entry_test

import (
	"bytes"
	"encoding/hex"
	"fmt"
	"math"
	"math/rand"
	"reflect"
	"slices"
	"sort"
	"strings"
	"sync"
	"testing"
	"unicode"
	"unicode/utf8"
	"unsafe"

	"scrinium/api"
	"scrinium/entry"
)

const (
	mostEntries  = 24
	mostVersions = 4
	mostMembers  = 16
	mostNum      = 200
	mostLen      = 1000
	mostMember   = 255
	mostName     = 200 // bytes of a name, where it is taken
)

// classOf is the least class in which n bytes and two more have room.
func classOf(n int) int {
	class := 32
	for class < n+2 {
		class *= 2
	}
	return class
}

// live is a version that isn't gone, with members 0 and 2 if none are named.
func live(num, length int, members ...int) api.Version {
	if len(members) == 0 {
		members = []int{0, 2}
	}
	v := api.Version{Num: num, Len: length, Class: classOf(length), Members: members}
	for i := range v.Object {
		v.Object[i] = byte(num*7 + i*13 + 1)
	}
	for i := range v.Key {
		v.Key[i] = byte(num*11 + i*17 + 5)
	}
	return v
}

func gone(num int) api.Version { return api.Version{Num: num, Gone: true} }

func one(versions ...api.Version) []api.Entry {
	return []api.Entry{{Name: "a", Versions: versions}}
}

// manyMembers is n numbers, no one twice, from the greatest down.
func manyMembers(n int) []int {
	l := []int{}
	for i := range n {
		l = append(l, mostMember-i)
	}
	return l
}

// manyEntries is n entries of one version each; their names stand in their order.
func manyEntries(n int) []api.Entry {
	var l []api.Entry
	for i := range n {
		l = append(l, api.Entry{Name: fmt.Sprintf("n%02d", i), Versions: []api.Version{live(1+i, i)}})
	}
	return l
}

// nameBy tells by the words of the document whether s is a name, and what its plain form is.
func nameBy(s string) (plain string, right bool) {
	signs := []rune(s)
	if !utf8.ValidString(s) || len(signs) < 1 || len(signs) > 24 || signs[0] == ' ' || signs[len(signs)-1] == ' ' {
		return "", false
	}
	for i, x := range signs {
		if unicode.IsControl(x) || x == '/' || x == 0xfffd {
			return "", false
		}
		if strings.ContainsRune("ABCDEFGHIJKLMNOPQRSTUVWXYZ", x) {
			signs[i] = x + 32
		}
	}
	return string(signs), true
}

func orderBy(a, b string) int {
	p, _ := nameBy(a)
	q, _ := nameBy(b)
	return slices.Compare([]rune(p), []rune(q))
}

func membersRightBy(l []int) bool {
	met := map[int]bool{}
	for _, m := range l {
		if m < 0 || m > mostMember {
			return false
		}
		met[m] = true
	}
	return len(met) == len(l) && len(l) >= 1 && len(l) <= mostMembers
}

func versionRightBy(v api.Version) bool {
	if v.Num < 1 || v.Num > mostNum {
		return false
	}
	if v.Gone {
		v.Members = append([]int(nil), v.Members...)
		return reflect.DeepEqual(v, api.Version{Num: v.Num, Gone: true})
	}
	return v.Len >= 0 && v.Len <= mostLen && v.Class == classOf(v.Len) && membersRightBy(v.Members)
}

func entryRightBy(e api.Entry) bool {
	if _, ok := nameBy(e.Name); !ok {
		return false
	}
	n := len(e.Versions)
	if n == 0 || n > mostVersions || e.Versions[0].Gone {
		return false
	}
	for i, v := range e.Versions {
		if !versionRightBy(v) {
			return false
		}
		if i+1 < n && v.Num >= e.Versions[i+1].Num {
			return false
		}
		if i+1 < n && v.Gone && e.Versions[i+1].Gone {
			return false
		}
	}
	return true
}

// rightBy tells by the words of the document whether l is right.
func rightBy(l []api.Entry) bool {
	if len(l) > mostEntries {
		return false
	}
	for i, e := range l {
		if !entryRightBy(e) || i > 0 && orderBy(l[i-1].Name, e.Name) >= 0 {
			return false
		}
	}
	return true
}

// small is x as a small number, as short as can be.
func small(x int) []byte {
	switch {
	case x <= 250:
		return []byte{byte(x)}
	case x < 256:
		return []byte{0xfb, byte(x)}
	}
	return []byte{0xfc, byte(x >> 8), byte(x)}
}

func join(parts ...[]byte) []byte { return bytes.Join(parts, nil) }

// bytesOf is the bytes of l, right or not, as far as its numbers fit.
func bytesOf(l []api.Entry) []byte {
	out := small(len(l))
	for _, e := range l {
		out = join(out, small(len(e.Name)), []byte(e.Name), small(len(e.Versions)))
		for _, v := range e.Versions {
			out = append(out, small(v.Num)...)
			if v.Gone {
				out = append(out, 1)
				continue
			}
			out = join(out, []byte{0}, v.Object[:], small(v.Len), v.Key[:], small(len(v.Members)))
			for _, m := range v.Members {
				out = append(out, small(m)...)
			}
		}
	}
	return out
}

// cutter takes a list's parts by the words of layer 1; what is wrong it tells by panic.
type cutter struct{ rest []byte }

func (c *cutter) some(n int) []byte {
	if len(c.rest) < n {
		panic(api.ErrShort)
	}
	out := c.rest[:n]
	c.rest = c.rest[n:]
	return out
}

func (c *cutter) small(most int) int {
	first := int(c.some(1)[0])
	if first == 255 {
		panic(api.ErrForm)
	}
	x := first
	if first > 250 {
		x = 0
		for _, b := range c.some(first - 250) {
			x = x<<8 | int(b)
		}
		if x <= 250 || first > 251 && x>>(8*(first-251)) == 0 {
			panic(api.ErrForm)
		}
	}
	if x > most {
		panic(api.ErrRange)
	}
	return x
}

func (c *cutter) version() api.Version {
	num := c.small(mostNum)
	switch c.some(1)[0] {
	case 0:
	case 1:
		return gone(num)
	default:
		panic(api.ErrForm)
	}
	v := api.Version{Num: num, Object: api.Id(c.some(16))}
	v.Len = c.small(mostLen)
	v.Class = classOf(v.Len)
	v.Key = api.Key(c.some(32))
	for n := c.small(mostMembers); n > 0; n-- {
		v.Members = append(v.Members, c.small(mostMember))
	}
	return v
}

// toldBy is what Get is to answer of b.
func toldBy(b []byte) (l []api.Entry, e api.Errno) {
	defer func() {
		if told := recover(); told != nil {
			l, e = nil, told.(api.Errno)
		}
	}()
	c := &cutter{b}
	for n := c.small(mostEntries); n > 0; n-- {
		one := api.Entry{Name: string(c.some(c.small(mostName)))}
		for k := c.small(mostVersions); k > 0; k-- {
			one.Versions = append(one.Versions, c.version())
		}
		l = append(l, one)
	}
	if len(c.rest) > 0 {
		return nil, api.ErrForm
	}
	if !rightBy(l) {
		return nil, api.ErrArg
	}
	return l, api.OK
}

// placeBy is what Find is to answer of a right list.
func placeBy(l []api.Entry, name string) (int, bool) {
	if _, ok := nameBy(name); !ok {
		return 0, false
	}
	ahead, there := 0, false
	for _, e := range l {
		switch order := orderBy(e.Name, name); {
		case order < 0:
			ahead++
		case order == 0:
			there = true
		}
	}
	return ahead, there
}

// withBy is what With is to answer.
func withBy(l []api.Entry, name string, v api.Version) ([]api.Entry, api.Errno) {
	if _, ok := nameBy(name); !ok {
		return nil, api.ErrName
	}
	if !rightBy(l) || !versionRightBy(v) {
		return nil, api.ErrArg
	}
	mine, others := api.Entry{Name: name}, []api.Entry{}
	for _, e := range l {
		if orderBy(e.Name, name) == 0 {
			mine = e
		} else {
			others = append(others, e)
		}
	}
	n := len(mine.Versions)
	switch {
	case n > 0 && v.Num <= mine.Versions[n-1].Num:
		return nil, api.ErrArg
	case v.Gone && (n == 0 || mine.Versions[n-1].Gone):
		return nil, api.ErrNone
	case n == 0 && len(l) == mostEntries:
		return nil, api.ErrFull
	}
	mine.Versions = append(slices.Clone(mine.Versions), v)
	if n == mostVersions && mine.Versions[1].Gone {
		mine.Versions = mine.Versions[2:]
	} else if n == mostVersions {
		mine.Versions = mine.Versions[1:]
	}
	others = append(others, mine)
	sort.Slice(others, func(i, j int) bool { return orderBy(others[i].Name, others[j].Name) < 0 })
	return others, api.OK
}

func sameVersion(a, b api.Version) bool {
	members := slices.Equal(a.Members, b.Members)
	a.Members, b.Members = nil, nil
	return members && reflect.DeepEqual(a, b)
}

// same tells whether two lists are one, where nil and empty are one.
func same(a, b []api.Entry) bool {
	return slices.EqualFunc(a, b, func(x, y api.Entry) bool {
		return x.Name == y.Name && slices.EqualFunc(x.Versions, y.Versions, sameVersion)
	})
}

// pool is names that are right, some of them one, and some that stand elsewhere by their bytes than by their plain forms.
var pool = []string{"a", "A", "aa", "aA", "AB", "ab", "b", "B", "Z", "z", "_", "[", "a b", "a  b", "0", "~", "é", "É", "漢字", "\U0001F600", "\uffff", "￼", strings.Repeat("x", 24), strings.Repeat("\U0001F600", 24), "Long Name Of A Secret", "a.b", "a%b", "\u00a0", "!", "z9"}

// noNames are none.
var noNames = []string{"", " ", "a ", " a", "/", "a/b", "\x00", "\x1f", "\x7f", "\u0085", "\ufffd", "a\xff", "\xc3", "\xed\xa0\x80", strings.Repeat("x", 25), strings.Repeat("\U0001F600", 25), strings.Repeat("x", 100000)}

func randomVersion(r *rand.Rand, num int) api.Version {
	v := live(num, r.Intn(mostLen+1))
	r.Read(v.Object[:])
	r.Read(v.Key[:])
	v.Members = r.Perm(mostMember + 1)[:1+r.Intn(mostMembers)]
	return v
}

// randomList is a right list, of at most n entries.
func randomList(r *rand.Rand, n int) []api.Entry {
	var l []api.Entry
	met := map[string]bool{}
	for range r.Intn(n + 1) {
		name := pool[r.Intn(len(pool))]
		plain, _ := nameBy(name)
		if met[plain] {
			continue
		}
		met[plain] = true
		e, num, last := api.Entry{Name: name}, 0, true
		for range 1 + r.Intn(mostVersions) {
			num += 1 + r.Intn(mostNum/mostVersions)
			v := randomVersion(r, num)
			if !last && r.Intn(3) == 0 {
				v = gone(num)
			}
			last = v.Gone
			e.Versions = append(e.Versions, v)
		}
		l = append(l, e)
	}
	sort.Slice(l, func(i, j int) bool { return orderBy(l[i].Name, l[j].Name) < 0 })
	return l
}

// checkRight holds Right and Put against the document's words.
func checkRight(t *testing.T, l []api.Entry) {
	t.Helper()
	want := rightBy(l)
	if got := entry.Right(l); got != want {
		t.Errorf("Right(%v): %v", l, got)
	}
	b, e := entry.Put(l)
	if !want {
		if e != api.ErrArg || b != nil {
			t.Errorf("Put(%v): % x, %v", l, b, e)
		}
		return
	}
	if e != api.OK || !bytes.Equal(b, bytesOf(l)) {
		t.Errorf("Put(%v): % x, %v", l, b, e)
	}
}

// checkGet holds Get against the document's words.
func checkGet(t *testing.T, b []byte) {
	t.Helper()
	l, e := entry.Get(b)
	want, wantE := toldBy(b)
	if e != wantE || !same(l, want) || e != api.OK && l != nil {
		t.Errorf("Get(% x): %v, %v; asked for: %v, %v", b, l, e, want, wantE)
	}
}

// checkWith holds With against the document's words.
func checkWith(t *testing.T, l []api.Entry, name string, v api.Version) ([]api.Entry, api.Errno) {
	t.Helper()
	x, e := entry.With(l, name, v)
	want, wantE := withBy(l, name, v)
	if e != wantE || !same(x, want) || e != api.OK && x != nil {
		t.Errorf("With(%v, %q, %v): %v, %v; asked for: %v, %v", l, name, v, x, e, want, wantE)
	}
	return x, e
}

// The chapter's example.
func TestExample(t *testing.T) {
	v := live(1, 3)
	l, e := entry.With(nil, "a", v)
	if e != api.OK || len(l) != 1 || l[0].Name != "a" || len(l[0].Versions) != 1 || !sameVersion(l[0].Versions[0], v) {
		t.Error(l, e)
	}
}

// P14.1: a version's number is from 1 to 200.
func TestNumbers(t *testing.T) {
	for _, num := range []int{math.MinInt, math.MinInt32, -200, -1, 0, 1, 2, 100, 199, 200, 201, 255, 256, 257, math.MaxInt32, math.MaxInt, 1<<32 + 1} {
		want := num >= 1 && num <= 200
		if got := entry.Right(one(live(num, 3))); got != want {
			t.Error(num, got)
		}
		checkRight(t, one(live(num, 3)))
		checkRight(t, one(live(1, 3), gone(num)))
		checkRight(t, one(live(1, 3), live(num, 3)))
		checkRight(t, one(live(num, 3), live(200, 3)))
	}
}

// P14.1: of a deletion all else is zero.
func TestGoneHasNothing(t *testing.T) {
	withField := func(change func(*api.Version)) []api.Entry {
		v := gone(2)
		change(&v)
		return one(live(1, 3), v)
	}
	if !entry.Right(withField(func(*api.Version) {})) || !entry.Right(withField(func(v *api.Version) { v.Members = []int{} })) {
		t.Error("nothing, and yet not right")
	}
	var wrong [][]api.Entry
	for i := range 16 {
		wrong = append(wrong, withField(func(v *api.Version) { v.Object[i] = 1 }))
	}
	for i := range 32 {
		wrong = append(wrong, withField(func(v *api.Version) { v.Key[i] = 0x80 }))
	}
	for _, n := range []int{math.MinInt, -1, 1, 32, math.MaxInt} {
		wrong = append(wrong, withField(func(v *api.Version) { v.Class = n }), withField(func(v *api.Version) { v.Len = n }))
	}
	for _, m := range [][]int{{0}, {5}, {0, 1}, make([]int, 17)} {
		wrong = append(wrong, withField(func(v *api.Version) { v.Members = m }))
	}
	wrong = append(wrong, withField(func(v *api.Version) { *v = live(2, 3); v.Gone = true }))
	for _, l := range wrong {
		if entry.Right(l) {
			t.Error(l)
		}
		checkRight(t, l)
	}
}

// P14.1: the class is that of the length, for each length and each class, and some that are none.
func TestClasses(t *testing.T) {
	lengths := []int{math.MinInt, math.MinInt + 2, -1000, math.MaxInt - 2, math.MaxInt - 1, math.MaxInt, 1 << 16, 1<<32 + 3}
	for n := -3; n <= 1030; n++ {
		lengths = append(lengths, n)
	}
	for _, n := range lengths {
		for _, class := range []int{math.MinInt, -32, 0, 1, 16, 31, 32, 33, 64, 128, 256, 512, 1024, 2048, math.MaxInt} {
			v := live(1, 0)
			v.Len, v.Class = n, class
			want := n >= 0 && n <= 1000 && class == classOf(n)
			if got := entry.Right(one(v)); got != want {
				t.Error(n, class, got)
			}
		}
	}
}

// P14.1: what a version's object and key are is free.
func TestObjectAndKeyAreFree(t *testing.T) {
	v := live(1, 3)
	for _, x := range []byte{0, 1, 0xff} {
		copy(v.Object[:], bytes.Repeat([]byte{x}, 16))
		copy(v.Key[:], bytes.Repeat([]byte{x}, 32))
		if !entry.Right(one(v)) {
			t.Error(x)
		}
		checkRight(t, one(v))
	}
}

// P14.1: from 1 to 16 members, from 0 to 255, no one twice, in any order.
func TestMembers(t *testing.T) {
	check := func(members []int, want bool) {
		t.Helper()
		v := live(1, 3)
		v.Members = members
		if got := entry.Right(one(v)); got != want {
			t.Error(members, got)
		}
		checkRight(t, one(v))
	}
	for n := range 20 {
		check(manyMembers(n), n >= 1 && n <= 16)
	}
	for m := -2; m < 260; m++ {
		check([]int{m}, m >= 0 && m <= 255)
		check([]int{m, 7, m}, false)
	}
	for _, m := range []int{math.MinInt, math.MaxInt, 1 << 32, -1 << 32} {
		check([]int{m}, false)
		check([]int{1, m}, false)
	}
	for i := range 16 {
		for _, m := range []int{-1, 256} {
			l := manyMembers(16)
			l[i] = m
			check(l, false)
		}
		for j := range i {
			l := manyMembers(16)
			l[i] = l[j]
			check(l, false)
		}
	}
	check([]int{3, 1, 2}, true)
	check([]int{0, 255}, true)
	check(make([]int, 100000), false)
}

// P14.1: the name is one, and there are from 1 to 4 versions.
func TestEntries(t *testing.T) {
	for _, name := range pool {
		l := []api.Entry{{Name: name, Versions: []api.Version{live(1, 3)}}}
		if !entry.Right(l) {
			t.Errorf("%q", name)
		}
		checkRight(t, l)
	}
	for _, name := range noNames {
		l := []api.Entry{{Name: name, Versions: []api.Version{live(1, 3)}}}
		if entry.Right(l) {
			t.Errorf("%q", name)
		}
		checkRight(t, l)
		checkRight(t, append(one(live(1, 1)), l...))
	}
	for n := range 8 {
		var versions []api.Version
		for i := range n {
			versions = append(versions, live(1+i, 3))
		}
		if got := entry.Right(one(versions...)); got != (n >= 1 && n <= 4) {
			t.Error(n, got)
		}
		checkRight(t, one(versions...))
	}
	for i := range 4 {
		versions := []api.Version{live(1, 3), live(2, 3), live(3, 3), live(4, 3)}
		versions[i].Class = 64
		checkRight(t, one(versions...))
	}
}

// P14.1: versions' numbers rise.
func TestVersionsRise(t *testing.T) {
	for _, l := range [][]int{{1, 1}, {2, 1}, {200, 1}, {1, 2, 2}, {1, 3, 2}, {1, 2, 3, 3}, {2, 3, 4, 1}, {5, 5, 6, 7}} {
		var versions []api.Version
		for _, num := range l {
			versions = append(versions, live(num, 3))
		}
		if entry.Right(one(versions...)) {
			t.Error(l)
		}
		checkRight(t, one(versions...))
		slices.SortFunc(versions, func(a, b api.Version) int { return a.Num - b.Num })
		checkRight(t, one(versions...))
	}
	if entry.Right(one(live(3, 3), gone(3))) || entry.Right(one(live(3, 3), gone(2))) || !entry.Right(one(live(3, 3), gone(200))) {
		t.Error("a deletion's number")
	}
}

// P14.1: no deletion stands first, or behind one; every pattern of up to five versions.
func TestDeletions(t *testing.T) {
	for n := range 6 {
		for bits := range 1 << n {
			var versions []api.Version
			pattern := ""
			for i := range n {
				if bits>>i&1 == 1 {
					versions = append(versions, gone(3+i))
					pattern += "x"
				} else {
					versions = append(versions, live(3+i, i))
					pattern += "o"
				}
			}
			want := n >= 1 && n <= 4 && pattern[0] == 'o' && !strings.Contains(pattern, "xx")
			if got := entry.Right(one(versions...)); got != want {
				t.Error(pattern, got)
			}
			checkRight(t, one(versions...))
		}
	}
}

// P14.1: at most 24 entries, whose names' plain forms stand one ahead of the other.
func TestLists(t *testing.T) {
	for n := range 30 {
		if got := entry.Right(manyEntries(n)); got != (n <= 24) {
			t.Error(n, got)
		}
		checkRight(t, manyEntries(n))
	}
	for _, a := range pool {
		for _, b := range pool {
			l := []api.Entry{{Name: a, Versions: []api.Version{live(1, 3)}}, {Name: b, Versions: []api.Version{live(2, 3)}}}
			if got := entry.Right(l); got != (orderBy(a, b) < 0) {
				t.Errorf("%q %q: %v", a, b, got)
			}
			checkRight(t, l)
		}
	}
	for i := range 23 {
		l := manyEntries(24)
		l[i], l[i+1] = l[i+1], l[i]
		if entry.Right(l) {
			t.Error(i)
		}
		l = manyEntries(24)
		l[i+1].Name = strings.ToUpper(l[i].Name)
		if entry.Right(l) {
			t.Error(i)
		}
	}
	if !entry.Right(nil) || !entry.Right([]api.Entry{}) {
		t.Error("none")
	}
	if entry.Right([]api.Entry{{Name: "B", Versions: []api.Version{live(1, 3)}}, {Name: "a", Versions: []api.Version{live(1, 3)}}}) {
		t.Error("by its bytes")
	}
	if !entry.Right([]api.Entry{{Name: "_", Versions: []api.Version{live(1, 3)}}, {Name: "Z", Versions: []api.Version{live(1, 3)}}}) {
		t.Error("by its bytes")
	}
}

// P14.1: bytes that were written by hand.
func TestBytes(t *testing.T) {
	check := func(l []api.Entry, words string) {
		t.Helper()
		want, err := hex.DecodeString(strings.ReplaceAll(words, " ", ""))
		if err != nil {
			t.Fatal(err)
		}
		b, e := entry.Put(l)
		if e != api.OK || !bytes.Equal(b, want) {
			t.Errorf("%x, %v", b, e)
		}
		x, e := entry.Get(want)
		if e != api.OK || !same(x, l) {
			t.Error(x, e)
		}
	}
	object := api.Id{0xa0, 0xa1, 0xa2, 0xa3, 0xa4, 0xa5, 0xa6, 0xa7, 0xa8, 0xa9, 0xaa, 0xab, 0xac, 0xad, 0xae, 0xaf}
	told := "a0a1a2a3a4a5a6a7a8a9aaabacadaeaf "
	key := api.Key{0: 0xfb, 1: 0xff, 31: 0xc1}
	lock := "fbff" + strings.Repeat("00", 29) + "c1 "
	check(nil, "00")
	check([]api.Entry{{Name: "a", Versions: []api.Version{{Num: 1, Object: object, Class: 32, Len: 3, Key: key, Members: []int{2, 0}}}}},
		"01 01 61 01 01 00"+told+"03"+lock+"02 02 00")
	check([]api.Entry{
		{Name: "é", Versions: []api.Version{{Num: 199, Object: object, Class: 1024, Len: 1000, Key: key, Members: []int{255, 250, 251}}, {Num: 200, Gone: true}}},
		{Name: "漢", Versions: []api.Version{{Num: 5, Class: 512, Len: 256, Members: []int{0}}}},
	}, "02 02 c3a9 02 c7 00"+told+"fc03e8"+lock+"03 fbff fa fbfb c8 01"+
		"03 e6bca2 01 05 00"+strings.Repeat("00", 16)+"fc0100"+strings.Repeat("00", 32)+"01 00")
}

// P14.4: what is put is got.
func TestPutIsGot(t *testing.T) {
	r := rand.New(rand.NewSource(14))
	for range 500 {
		l := randomList(r, 24)
		checkRight(t, l)
		b, e := entry.Put(l)
		if e != api.OK {
			t.Fatal(l, e)
		}
		x, e := entry.Get(b)
		if e != api.OK || !same(x, l) {
			t.Fatal(l, x, e)
		}
	}
	full := manyEntries(24)
	for i := range full {
		full[i].Name = strings.Repeat("\U0001F600", 23) + string(rune(0x1F600+i))
		full[i].Versions = []api.Version{live(197, 1000, manyMembers(16)...), gone(198), live(199, 0, manyMembers(16)...), live(200, 1000, manyMembers(16)...)}
	}
	b, e := entry.Put(full)
	if e != api.OK || !bytes.Equal(b, bytesOf(full)) {
		t.Fatal(e)
	}
	if x, e := entry.Get(b); e != api.OK || !same(x, full) {
		t.Error(e)
	}
}

// sampleList is one whose bytes hold all that there may be.
func sampleList() []api.Entry {
	return []api.Entry{
		{Name: "B-", Versions: []api.Version{live(1, 251, 3, 255), gone(7)}},
		{Name: "cé", Versions: []api.Version{live(200, 30)}},
	}
}

// P14.1: Get's errors, of bytes that end within, of bytes that are left, and of each byte changed to each other.
func TestGetOfWrongBytes(t *testing.T) {
	b := bytesOf(sampleList())
	checkGet(t, b)
	checkGet(t, nil)
	for n := range b {
		if _, e := entry.Get(b[:n]); e != api.ErrShort {
			t.Error(n, e)
		}
		checkGet(t, b[:n])
	}
	for n := 1; n < 40; n++ {
		if _, e := entry.Get(join(b, make([]byte, n))); e != api.ErrForm {
			t.Error(n, e)
		}
	}
	for i := range b {
		for x := range 256 {
			changed := bytes.Clone(b)
			changed[i] = byte(x)
			checkGet(t, changed)
			checkGet(t, changed[:len(b)-1])
			checkGet(t, append(changed, 0))
		}
	}
}

// P14.1: Get's errors, of several bytes changed, put in and left out.
func TestGetOfManyFaults(t *testing.T) {
	r := rand.New(rand.NewSource(41))
	met := map[api.Errno]int{}
	few := []byte{0, 1, 2, 3, 4, 5, 16, 17, 24, 25, 200, 201, 250, 251, 252, 253, 254, 255}
	for range 30000 {
		b := bytesOf(randomList(r, 3))
		for range 1 + r.Intn(3) {
			at := r.Intn(len(b) + 1)
			switch x := few[r.Intn(len(few))]; {
			case at == len(b) || r.Intn(3) == 0:
				b = slices.Insert(b, at, x)
			case r.Intn(2) == 0:
				b = slices.Delete(b, at, at+1)
				if len(b) == 0 {
					b = []byte{x}
				}
			default:
				b[at] = x
			}
		}
		checkGet(t, b)
		_, e := toldBy(b)
		met[e]++
	}
	for _, e := range []api.Errno{api.OK, api.ErrShort, api.ErrForm, api.ErrRange, api.ErrArg} {
		if met[e] < 100 {
			t.Error("seldom met:", e, met[e])
		}
	}
}

// get checks what Get answers of bytes that are put together.
func get(t *testing.T, want api.Errno, parts ...[]byte) {
	t.Helper()
	b := join(parts...)
	if l, e := entry.Get(b); e != want || e != api.OK && l != nil {
		t.Errorf("% x: %v, %v; asked for: %v", b, l, e, want)
	}
	checkGet(t, b)
}

// P14.1: Get's bounds: each number at its bound and one above.
func TestGetBounds(t *testing.T) {
	body := func(num, length, count int, members ...int) []byte {
		out := join(small(num), []byte{0}, make([]byte, 16), small(length), make([]byte, 32), small(count))
		for _, m := range members {
			out = append(out, small(m)...)
		}
		return out
	}
	head := []byte{1, 1, 'a', 1}
	get(t, api.OK, head, body(200, 1000, 1, 255))
	get(t, api.OK, head, body(1, 0, 16, manyMembers(16)...))
	get(t, api.ErrRange, head, body(201, 1000, 1, 255))
	get(t, api.ErrRange, head, body(200, 1001, 1, 255))
	get(t, api.ErrRange, head, body(200, 1000, 1, 256))
	get(t, api.ErrRange, head, body(1, 0, 17, manyMembers(17)...))
	get(t, api.ErrArg, head, body(0, 0, 1, 0))
	get(t, api.ErrArg, head, body(1, 0, 0))
	get(t, api.ErrArg, head, body(1, 0, 2, 0, 0))
	get(t, api.ErrRange, []byte{25})
	get(t, api.ErrShort, []byte{24})
	get(t, api.ErrRange, []byte{1, 1, 'a', 5})
	get(t, api.ErrArg, []byte{1, 1, 'a', 0})
	long := func(n int) []byte { return join([]byte{1}, small(n), bytes.Repeat([]byte{'a'}, n), []byte{1}) }
	get(t, api.OK, long(24), body(1, 0, 1, 0))
	get(t, api.ErrArg, long(25), body(1, 0, 1, 0))
	get(t, api.ErrArg, long(200), body(1, 0, 1, 0))
	get(t, api.ErrRange, long(201), body(1, 0, 1, 0))
	get(t, api.ErrRange, []byte{1, 201})
	get(t, api.ErrShort, []byte{1, 200})
	get(t, api.ErrArg, []byte{1, 0, 1}, body(1, 0, 1, 0))
	get(t, api.ErrArg, head, []byte{1, 1})
	get(t, api.OK, []byte{1, 1, 'a', 2}, body(1, 0, 1, 0), []byte{2, 1})
}

// P14.1: the order of Get's errors: as they are met; bytes that are left behind these; what isn't right last of all.
func TestGetOrder(t *testing.T) {
	head := []byte{1, 1, 'a', 1}
	rest := join(make([]byte, 16), []byte{3}, make([]byte, 32), []byte{1, 0})
	get(t, api.OK, head, []byte{1, 0}, rest)
	for _, flag := range []byte{2, 3, 0x80, 0xfe, 0xff} {
		get(t, api.ErrForm, head, []byte{1, flag}, rest)
		get(t, api.ErrForm, head, []byte{1, flag})
		get(t, api.ErrForm, head, []byte{0, flag}, rest, []byte{9})
		get(t, api.ErrRange, head, []byte{201, flag})
		get(t, api.ErrForm, head, []byte{1, flag}, make([]byte, 16), []byte{0xfc, 0xff, 0xff})
	}
	get(t, api.ErrShort, head, []byte{1})
	get(t, api.ErrForm, head, []byte{255})
	get(t, api.ErrForm, head, []byte{251, 200, 0}, rest)
	get(t, api.ErrForm, head, []byte{251, 201, 0}, rest)
	get(t, api.ErrRange, head, []byte{251, 251, 0}, rest)
	get(t, api.ErrRange, []byte{1, 1, 'a', 2, 1, 0}, make([]byte, 16), []byte{0xfc, 3, 0xe9}, make([]byte, 32), []byte{1, 0, 9, 2})
	get(t, api.ErrForm, head, []byte{0, 0}, rest, []byte{0})
	get(t, api.ErrForm, []byte{1, 1, '/', 1, 1, 0}, rest, []byte{0})
	get(t, api.ErrArg, []byte{1, 1, '/', 1, 1, 0}, rest)
	get(t, api.ErrRange, []byte{2, 1, '/', 1, 1, 0}, rest, []byte{1, 'b', 5})
	get(t, api.ErrForm, []byte{0, 0})
	get(t, api.OK, []byte{0})
	get(t, api.ErrShort)
}

// P14.2: Find in right lists, of names that are there, and of those that aren't.
func TestFind(t *testing.T) {
	r := rand.New(rand.NewSource(142))
	for range 300 {
		l := randomList(r, 24)
		for _, name := range append(slices.Clone(pool), noNames...) {
			at, is := entry.Find(l, name)
			wantAt, wantIs := placeBy(l, name)
			if at != wantAt || is != wantIs {
				t.Fatalf("%v, %q: %v, %v; asked for: %v, %v", l, name, at, is, wantAt, wantIs)
			}
		}
	}
	l := []api.Entry{{Name: "Ab", Versions: []api.Version{live(1, 3)}}, {Name: "c", Versions: []api.Version{live(1, 3)}}}
	for name, want := range map[string]struct {
		at int
		is bool
	}{"aB": {0, true}, "AB": {0, true}, "C": {1, true}, "a": {0, false}, "B": {1, false}, "d": {2, false}, "": {0, false}, "d/": {0, false}, "zz ": {0, false}} {
		if at, is := entry.Find(l, name); at != want.at || is != want.is {
			t.Errorf("%q: %v, %v", name, at, is)
		}
	}
}

// P14.2, R1: Find in lists that aren't right: who is there is found, the first one of several, whatever stands around.
func TestFindInWrongLists(t *testing.T) {
	l := []api.Entry{{Name: "z"}, {Name: "/"}, {Name: ""}, {Name: "B"}, {Name: "a", Versions: make([]api.Version, 9)}, {Name: "b"}, {Name: "\xff"}}
	for name, want := range map[string]int{"Z": 0, "b": 3, "B": 3, "A": 4} {
		if at, is := entry.Find(l, name); at != want || !is {
			t.Errorf("%q: %v, %v", name, at, is)
		}
	}
	for _, name := range []string{"/", "", "\xff"} {
		if at, is := entry.Find(l, name); at != 0 || is {
			t.Errorf("%q: %v, %v", name, at, is)
		}
	}
	for _, name := range []string{"c", "zz", "0"} {
		if at, is := entry.Find(l, name); at < 0 || at > len(l) || is {
			t.Errorf("%q: %v, %v", name, at, is)
		}
	}
	// The order alone is what places ask for.
	l = manyEntries(40)
	if at, is := entry.Find(l, "N30"); at != 30 || !is {
		t.Error(at, is)
	}
	if at, is := entry.Find(l, "n30a"); at != 31 || is {
		t.Error(at, is)
	}
	if at, is := entry.Find(l, "o"); at != 40 || is {
		t.Error(at, is)
	}
}

// P14.2: Last is the last one, whatever it is, or false and nothing.
func TestLast(t *testing.T) {
	if v, is := entry.Last(api.Entry{Name: "a"}); is || !reflect.DeepEqual(v, api.Version{}) {
		t.Error(v, is)
	}
	if v, is := entry.Last(api.Entry{Name: "a", Versions: []api.Version{}}); is || !reflect.DeepEqual(v, api.Version{}) {
		t.Error(v, is)
	}
	wrong := api.Version{Num: -7, Gone: true, Class: 5, Len: -1, Members: []int{9, 9, -4}}
	for _, l := range [][]api.Version{{live(1, 3)}, {live(1, 3), gone(2)}, {live(9, 3), live(3, 1000, 7)}, {wrong}, {live(1, 1), wrong, {}}, append(make([]api.Version, 100), wrong)} {
		v, is := entry.Last(api.Entry{Name: "/", Versions: l})
		if !is || !sameVersion(v, l[len(l)-1]) {
			t.Error(l, v, is)
		}
	}
}

// P14.3: With against the document's words, step by step.
func TestWithStepByStep(t *testing.T) {
	r := rand.New(rand.NewSource(143))
	met := map[api.Errno]int{}
	for range 60 {
		var l []api.Entry
		names := append(slices.Clone(pool), noNames[r.Intn(len(noNames))])
		for num := 1; num <= mostNum; num++ {
			v := randomVersion(r, max(1, num-r.Intn(3)))
			if r.Intn(3) == 0 {
				v = gone(v.Num)
			}
			x, e := checkWith(t, l, names[r.Intn(len(names))], v)
			met[e]++
			if e != api.OK {
				continue
			}
			l = x
			if !entry.Right(l) {
				t.Fatal(l)
			}
		}
	}
	for _, e := range []api.Errno{api.OK, api.ErrName, api.ErrArg, api.ErrNone, api.ErrFull} {
		if met[e] < 20 {
			t.Error("seldom met:", e, met[e])
		}
	}
}

// P14.3: which versions are left out, for every pattern of deletions.
func TestWithLeavesOut(t *testing.T) {
	nums := func(versions []api.Version) string {
		out := ""
		for _, v := range versions {
			out += fmt.Sprint(v.Num)
			if v.Gone {
				out += "!"
			}
		}
		return out
	}
	for _, c := range []struct {
		old  []api.Version
		next api.Version
		want string
	}{
		{[]api.Version{live(1, 3), live(2, 3), live(3, 3)}, live(4, 3), "1234"},
		{[]api.Version{live(1, 3), gone(2), live(3, 3)}, live(4, 3), "12!34"},
		{[]api.Version{live(1, 3), gone(2), live(3, 3)}, gone(4), "12!34!"},
		{[]api.Version{live(1, 3), live(2, 3), live(3, 3), live(4, 3)}, live(5, 3), "2345"},
		{[]api.Version{live(1, 3), live(2, 3), live(3, 3), live(4, 3)}, gone(5), "2345!"},
		{[]api.Version{live(1, 3), gone(2), live(3, 3), live(4, 3)}, live(5, 3), "345"},
		{[]api.Version{live(1, 3), gone(2), live(3, 3), live(4, 3)}, gone(5), "345!"},
		{[]api.Version{live(1, 3), gone(2), live(3, 3), gone(4)}, live(5, 3), "34!5"},
		{[]api.Version{live(1, 3), live(2, 3), gone(3), live(4, 3)}, live(5, 3), "23!45"},
		{[]api.Version{live(1, 3), live(2, 3), gone(3), live(4, 3)}, gone(5), "23!45!"},
		{[]api.Version{live(1, 3), live(2, 3), live(3, 3), gone(4)}, live(5, 3), "234!5"},
	} {
		l, e := checkWith(t, one(c.old...), "A", c.next)
		if e != api.OK || len(l) != 1 || l[0].Name != "a" || nums(l[0].Versions) != c.want {
			t.Error(l, e, c.want)
		}
	}
}

// P14.3: a new secret stands under the name that is handed in, at its place; an old one keeps its own name and place; the others stay.
func TestWithNames(t *testing.T) {
	l := []api.Entry{{Name: "Ab", Versions: []api.Version{live(1, 3)}}, {Name: "c", Versions: []api.Version{live(2, 3), gone(3)}}}
	for name, want := range map[string]string{"aB": "Ab c", "AB": "Ab c", "C": "Ab c", "A": "A Ab c", "B": "Ab B c", "D": "Ab c D", "é": "Ab c é"} {
		x, e := checkWith(t, l, name, live(9, 3))
		var got []string
		for _, y := range x {
			got = append(got, y.Name)
		}
		if e != api.OK || strings.Join(got, " ") != want {
			t.Errorf("%q: %v, %v", name, got, e)
		}
	}
	for i := range 24 {
		full := manyEntries(24)
		x, e := checkWith(t, full, strings.ToUpper(full[i].Name), live(100, 3))
		if e != api.OK || len(x) != 24 || x[i].Name != full[i].Name || len(x[i].Versions) != 2 {
			t.Error(i, e)
		}
		left := slices.Delete(manyEntries(24), i, i+1)
		x, e = checkWith(t, left, strings.ToUpper(full[i].Name), live(100, 3))
		if e != api.OK || len(x) != 24 || x[i].Name != strings.ToUpper(full[i].Name) || len(x[i].Versions) != 1 {
			t.Error(i, e)
		}
	}
}

// P14.3, R2: With's errors, each alone, and every two of them.
func TestWithErrors(t *testing.T) {
	l := append(manyEntries(23), api.Entry{Name: "x", Versions: []api.Version{live(1, 3), gone(5)}})
	check := func(want api.Errno, l []api.Entry, name string, v api.Version) {
		t.Helper()
		if x, e := checkWith(t, l, name, v); e != want || e != api.OK && x != nil {
			t.Errorf("%q, %v: %v; asked for: %v", name, v, e, want)
		}
	}
	wrong := one(gone(1))
	bad := live(9, 3)
	bad.Class = 64
	check(api.OK, l, "X", live(6, 3))
	for _, name := range noNames {
		check(api.ErrName, nil, name, live(1, 3))
		check(api.ErrName, wrong, name, live(1, 3))
		check(api.ErrName, nil, name, bad)
		check(api.ErrName, l, name, gone(9))
		check(api.ErrName, l, name, live(9, 3))
	}
	check(api.ErrArg, wrong, "b", live(9, 3))
	check(api.ErrArg, wrong, "b", gone(9))
	check(api.ErrArg, manyEntries(25), "n00", live(200, 3))
	check(api.ErrArg, manyEntries(25), "y", live(200, 3))
	check(api.ErrArg, nil, "b", bad)
	check(api.ErrArg, nil, "b", api.Version{})
	check(api.ErrArg, nil, "b", gone(0))
	check(api.ErrArg, nil, "b", gone(201))
	check(api.ErrArg, l, "x", bad)
	check(api.ErrArg, l, "y", bad)
	for _, num := range []int{1, 2, 3, 4, 5} {
		check(api.ErrArg, l, "x", live(num, 3))
		check(api.ErrArg, l, "x", gone(num))
	}
	check(api.ErrArg, l, "x", live(201, 3))
	check(api.ErrArg, l, "x", live(math.MinInt, 3))
	check(api.ErrArg, l, "x", live(math.MaxInt, 3))
	check(api.OK, l, "x", live(200, 3))
	check(api.ErrNone, l, "x", gone(6))
	check(api.ErrNone, l, "y", gone(1))
	check(api.ErrNone, nil, "y", gone(200))
	check(api.OK, l, "n00", gone(200))
	check(api.ErrFull, l, "y", live(1, 3))
	check(api.OK, l[:23], "y", live(1, 3))
	check(api.ErrNone, l[:23], "y", gone(1))
}

// wild is a list that isn't right in any way.
func wild() []api.Entry {
	return []api.Entry{
		{Name: "\xff/", Versions: []api.Version{{Num: math.MinInt, Gone: true, Class: -1, Len: math.MaxInt, Members: []int{5, 5, -1, math.MaxInt}}, {}, live(1, 3)}},
		{},
		{Name: strings.Repeat("y", 300), Versions: make([]api.Version, 30)},
	}
}

// P14.4: Copy is the list, right or not.
func TestCopy(t *testing.T) {
	r := rand.New(rand.NewSource(144))
	for _, l := range append([][]api.Entry{nil, {}, {{}}, wild(), manyEntries(60), sampleList()}, randomList(r, 24), randomList(r, 24)) {
		if x := entry.Copy(l); !same(x, l) {
			t.Error(l, x)
		}
	}
}

// span is where something lies in memory: from, and behind its end.
type span struct{ from, end uintptr }

func spanOf[T any](l []T) span {
	var x T
	from := uintptr(unsafe.Pointer(unsafe.SliceData(l)))
	return span{from, from + uintptr(cap(l))*unsafe.Sizeof(x)}
}

// spanOfText leaves out texts of one byte: these the language keeps ready for all.
func spanOfText(s string) span {
	if len(s) == 1 {
		return span{}
	}
	from := uintptr(unsafe.Pointer(unsafe.StringData(s)))
	return span{from, from + uintptr(len(s))}
}

func spansOfVersions(l []api.Version) []span {
	out := []span{spanOf(l)}
	for _, v := range l[:cap(l)] {
		out = append(out, spanOf(v.Members))
	}
	return out
}

// spans is where all of l lies, spare room included.
func spans(l []api.Entry) []span {
	out := []span{spanOf(l)}
	for _, e := range l[:cap(l)] {
		out = append(out, spanOfText(e.Name))
		out = append(out, spansOfVersions(e.Versions)...)
	}
	return out
}

// apart checks that no two of these have a byte in common.
func apart(t *testing.T, what string, lists ...[]span) {
	t.Helper()
	all := slices.DeleteFunc(slices.Concat(lists...), func(s span) bool { return s.from == s.end })
	sort.Slice(all, func(i, j int) bool { return all[i].from < all[j].from })
	for i := 1; i < len(all); i++ {
		if all[i].from < all[i-1].end {
			t.Error("shared memory:", what)
			return
		}
	}
}

// roomy is a like list, each text and list of it memory of its own, with spare room that isn't empty.
func roomy(l []api.Entry) []api.Entry {
	out := make([]api.Entry, 0, len(l)+3)
	for _, e := range l {
		versions := make([]api.Version, 0, len(e.Versions)+3)
		for _, v := range e.Versions {
			v.Members = append(slices.Clone(v.Members), 77, 78, 79)[:len(v.Members)]
			versions = append(versions, v)
		}
		n := len(versions)
		versions = append(versions, live(71, 1), live(72, 1), live(73, 1))[:n]
		out = append(out, api.Entry{Name: strings.Clone(e.Name), Versions: versions})
	}
	n := len(out)
	out = append(out, api.Entry{Name: strings.Clone("s1")}, api.Entry{Name: strings.Clone("s2"), Versions: []api.Version{live(74, 1)}}, api.Entry{Name: strings.Clone("s3")})
	return out[:n]
}

// opened is l with all spare room laid open.
func opened(l []api.Entry) []api.Entry {
	l = slices.Clone(l[:cap(l)])
	for i := range l {
		l[i].Versions = slices.Clone(l[i].Versions[:cap(l[i].Versions)])
		for j := range l[i].Versions {
			m := l[i].Versions[j].Members
			l[i].Versions[j].Members = slices.Clone(m[:cap(m)])
		}
	}
	return l
}

// R4: what is handed in isn't changed, spare room included, and no answer shares memory with it, with another answer or within itself; nor has its spare room anything.
func TestMemory(t *testing.T) {
	r := rand.New(rand.NewSource(4))
	lists := [][]api.Entry{nil, manyEntries(23), manyEntries(24), sampleList(), wild(), one(live(1, 3), gone(2), live(3, 3), live(4, 3))}
	for range 40 {
		lists = append(lists, randomList(r, 23))
	}
	for i, plain := range lists {
		l := roomy(plain)
		v := live(200, 9)
		v.Members = append(make([]int, 0, 9), 4, 5, 6, 7)[:3]
		before, beforeMembers := opened(l), slices.Clone(v.Members[:9])
		what := [][]span{spans(l), {spanOf(v.Members)}}
		answers := [][]api.Entry{entry.Copy(l), entry.Copy(l)}
		entry.Right(l)
		entry.Put(l)
		for _, name := range []string{strings.Clone("Aa"), strings.Clone("n07"), strings.Clone("B")} {
			entry.Find(l, name)
			what = append(what, []span{spanOfText(name)})
			for range 2 {
				if x, e := entry.With(l, name, v); e == api.OK {
					answers = append(answers, x)
				}
			}
			if x, e := entry.With(l, name, gone(200)); e == api.OK {
				answers = append(answers, x)
			}
		}
		for _, x := range answers {
			what = append(what, spans(x))
			if !same(opened(x), x) {
				t.Error(i, "spare room that isn't empty")
			}
		}
		for _, e := range l {
			for range 2 {
				last, _ := entry.Last(e)
				what = append(what, []span{spanOf(last.Members)})
			}
		}
		apart(t, fmt.Sprint(i), what...)
		if !same(opened(l), before) || !slices.Equal(v.Members[:9], beforeMembers) {
			t.Error(i, "changed")
		}
	}
}

// R4: the same of bytes.
func TestMemoryOfBytes(t *testing.T) {
	l := sampleList()
	p, _ := entry.Put(l)
	q, _ := entry.Put(l)
	b := append(bytes.Clone(p), 1, 2, 3)
	before := bytes.Clone(b[:cap(b)])
	text := b[:len(p)]
	x, e := entry.Get(text)
	y, f := entry.Get(text)
	if e != api.OK || f != api.OK {
		t.Fatal(e, f)
	}
	entry.Get(text[:9])
	apart(t, "bytes", []span{spanOf(p), spanOf(q), spanOf(b)}, spans(l), spans(x), spans(y))
	if !bytes.Equal(b[:cap(b)], before) {
		t.Error("changed")
	}
	for i := range b {
		b[i] = 0xff
	}
	if !same(x, l) || !same(y, l) {
		t.Error("kept as it was")
	}
	for _, spare := range [][]byte{p[len(p):cap(p)], q[len(q):cap(q)]} {
		if bytes.ContainsFunc(spare, func(r rune) bool { return r != 0 }) {
			t.Error("spare room that isn't empty")
		}
	}
	for _, got := range [][]api.Entry{x, y} {
		for _, e := range opened(got)[len(got):] {
			if !reflect.DeepEqual(e, api.Entry{}) {
				t.Error("spare room that isn't empty")
			}
		}
	}
}

// R3: nil and empty lists are one, handed in.
func TestEmptyAndNil(t *testing.T) {
	for _, l := range [][]api.Entry{nil, {}, make([]api.Entry, 0, 5)} {
		b, e := entry.Put(l)
		if e != api.OK || !bytes.Equal(b, []byte{0}) {
			t.Error(b, e)
		}
		if x := entry.Copy(l); len(x) != 0 {
			t.Error(x)
		}
		if at, is := entry.Find(l, "a"); at != 0 || is {
			t.Error(at, is)
		}
		checkWith(t, l, "a", live(1, 3))
	}
	deletion := gone(2)
	deletion.Members = []int{}
	x, e := entry.With(one(live(1, 3)), "a", deletion)
	if e != api.OK || !reflect.DeepEqual(x[0].Versions[1], gone(2)) {
		t.Error(x, e)
	}
	if _, e := entry.Get([]byte{}); e != api.ErrShort {
		t.Error(e)
	}
}

// R3: of a deletion that is got all else is zero.
func TestGotDeletion(t *testing.T) {
	l, e := entry.Get(bytesOf(sampleList()))
	if e != api.OK || !reflect.DeepEqual(l[0].Versions[1], gone(7)) {
		t.Error(l, e)
	}
}

// R1: no call panics, and each ends, at arguments as wild as can be.
func TestWildArguments(t *testing.T) {
	lists := [][]api.Entry{nil, wild(), make([]api.Entry, 100000), manyEntries(300), one(make([]api.Version, 100000)...), one(live(1, 3, make([]int, 100000)...))}
	versions := []api.Version{{}, live(1, 3), gone(1), live(math.MinInt, 3), live(math.MaxInt, 3), live(3, 3, make([]int, 100000)...), wild()[0].Versions[0]}
	for _, l := range lists {
		entry.Right(l)
		entry.Put(l)
		entry.Copy(l)
		for _, name := range noNames {
			entry.Find(l, name)
			for _, v := range versions {
				entry.With(l, name, v)
			}
		}
		for _, name := range pool[:3] {
			entry.Find(l, name)
			for _, v := range versions {
				entry.With(l, name, v)
			}
		}
		for _, e := range l {
			entry.Last(e)
		}
	}
	for _, b := range [][]byte{nil, bytes.Repeat([]byte{0xff}, 1<<16), bytes.Repeat([]byte{0}, 1<<20), bytes.Repeat([]byte{24}, 1<<20), bytes.Repeat([]byte{1}, 1<<20)} {
		if _, e := entry.Get(b); e == api.OK {
			t.Error(len(b))
		}
	}
}

// R5: the same again, and at once, answers the same.
func TestSameAgain(t *testing.T) {
	r := rand.New(rand.NewSource(5))
	l := randomList(r, 20)
	b, _ := entry.Put(l)
	with, _ := entry.With(l, "Zz", live(200, 77))
	var group sync.WaitGroup
	for range 8 {
		group.Go(func() {
			for range 30 {
				if p, e := entry.Put(l); e != api.OK || !bytes.Equal(p, b) {
					t.Error(e)
				}
				if x, e := entry.Get(b); e != api.OK || !same(x, l) {
					t.Error(e)
				}
				if x, e := entry.With(l, "Zz", live(200, 77)); e != api.OK || !same(x, with) {
					t.Error(e)
				}
				if !same(entry.Copy(l), l) || !entry.Right(l) {
					t.Error("another one")
				}
				if at, is := entry.Find(with, "zZ"); !is || with[at].Name != "Zz" {
					t.Error(at, is)
				}
			}
		})
	}
	group.Wait()
}

// P14.1, P14.4: whatever the bytes are: what is got is put as these bytes, and no others are got.
func FuzzGet(f *testing.F) {
	f.Add([]byte{0})
	f.Add(bytesOf(sampleList()))
	f.Add(bytesOf(manyEntries(3)))
	f.Add(bytesOf(one(live(1, 3), gone(2), live(3, 300, 255), gone(4))))
	f.Fuzz(func(t *testing.T, b []byte) {
		checkGet(t, b)
		if l, e := entry.Get(b); e == api.OK {
			if p, e := entry.Put(l); e != api.OK || !bytes.Equal(p, b) {
				t.Errorf("% x, %v", p, e)
			}
		}
	})
}

// P14.2, P14.3: whatever name and version there are.
func FuzzWith(f *testing.F) {
	f.Add(bytesOf(sampleList()), "b", 9, false, 3, 1)
	f.Add(bytesOf(manyEntries(24)), "n00", 200, true, 0, 0)
	f.Add(bytesOf(one(live(1, 3), gone(2), live(3, 300, 255), gone(4))), "A", 7, false, 1000, 255)
	f.Fuzz(func(t *testing.T, b []byte, name string, num int, isGone bool, length, member int) {
		l, _ := toldBy(b)
		v := gone(num)
		if !isGone {
			v = live(num, min(length, 2000), member, 3)
		}
		checkWith(t, l, name, v)
		at, is := entry.Find(l, name)
		if wantAt, wantIs := placeBy(l, name); at != wantAt || is != wantIs {
			t.Errorf("%q: %v, %v", name, at, is)
		}
	})
}
