package draws_test

import (
	"crypto/sha256"
	"encoding/hex"
	"math"
	"math/rand"
	"slices"
	"sync"
	"testing"

	"scrinium/api"
	"scrinium/draws"
)

// some are n draws, none of which any other seed has.
func some(n int, seed byte) []api.Key {
	out := make([]api.Key, n)
	for i := range out {
		out[i] = api.Key{seed, byte(i >> 16), byte(i >> 8), byte(i), 31: 0xa5}
	}
	return out
}

// idOf is made by another program's SHA-256.
func idOf(k api.Key) api.Id {
	digest := sha256.Sum256(k[:])
	var id api.Id
	copy(id[:], digest[:16])
	return id
}

func wantNext(t *testing.T, d *draws.Draws, want api.Key) {
	t.Helper()
	if k, e := d.Next(); k != want || e != api.OK {
		t.Errorf("Next: %x, %v, not %x", k, e, want)
	}
}

func wantSome(t *testing.T, d *draws.Draws, n int, want []api.Key) []api.Key {
	t.Helper()
	l, e := d.Some(n)
	if e != api.OK || !slices.Equal(l, want) {
		t.Errorf("Some(%d): %x, %v, not %x", n, l, e, want)
	}
	return l
}

func wantId(t *testing.T, d *draws.Draws, want api.Id) {
	t.Helper()
	if id, e := d.Id(); id != want || e != api.OK {
		t.Errorf("Id: %x, %v, not %x", id, e, want)
	}
}

func wantLeft(t *testing.T, d *draws.Draws, want int) {
	t.Helper()
	if n := d.Left(); n != want {
		t.Errorf("Left: %d, not %d", n, want)
	}
}

// wantAll takes all that are left, one by one.
func wantAll(t *testing.T, d *draws.Draws, want []api.Key) {
	t.Helper()
	wantLeft(t, d, len(want))
	for i, k := range want {
		wantNext(t, d, k)
		wantLeft(t, d, len(want)-i-1)
	}
	wantNone(t, d, api.ErrDraw)
}

// wantNone asks for one more in each way: each tells the error, and nothing beside it.
func wantNone(t *testing.T, d *draws.Draws, want api.Errno) {
	t.Helper()
	if k, e := d.Next(); k != (api.Key{}) || e != want {
		t.Errorf("Next: %x, %v, not %v", k, e, want)
	}
	if id, e := d.Id(); id != (api.Id{}) || e != want {
		t.Errorf("Id: %x, %v, not %v", id, e, want)
	}
	wantSomeWrong(t, d, 1, want)
	wantLeft(t, d, 0)
}

func wantSomeWrong(t *testing.T, d *draws.Draws, n int, want api.Errno) {
	t.Helper()
	if l, e := d.Some(n); len(l) != 0 || e != want {
		t.Errorf("Some(%d): %x, %v, not %v", n, l, e, want)
	}
}

// P12.1: the chapter's example.
func TestTooMany(t *testing.T) {
	d := draws.New([]api.Key{{1}, {2}})
	wantSomeWrong(t, d, 3, api.ErrDraw)
	wantLeft(t, d, 2)
	wantAll(t, d, []api.Key{{1}, {2}})
}

// P12.1: what each call does to those that are left, by hand.
func TestByHand(t *testing.T) {
	d := draws.New([]api.Key{{1}, {2}, {3}, {4}, {5}})
	wantNext(t, d, api.Key{1})
	wantLeft(t, d, 4)
	wantSome(t, d, 2, []api.Key{{2}, {3}})
	wantLeft(t, d, 2)
	wantId(t, d, idOf(api.Key{4}))
	wantLeft(t, d, 1)
	d.More([]api.Key{{6}, {7}})
	wantLeft(t, d, 3)
	wantSome(t, d, 3, []api.Key{{5}, {6}, {7}})
	wantNone(t, d, api.ErrDraw)
}

// P12.1: the first 16 bytes of digests that are known: of 32 bytes 0, and of the bytes 0 to 31.
func TestIdKnown(t *testing.T) {
	var rising api.Key
	for i := range rising {
		rising[i] = byte(i)
	}
	d := draws.New([]api.Key{{}, rising})
	for _, want := range []string{"66687aadf862bd776c8fc18b8e9f8e20", "630dcd2966c4336691125448bbb25b4f"} {
		var id api.Id
		hex.Decode(id[:], []byte(want))
		wantId(t, d, id)
	}
	wantNone(t, d, api.ErrDraw)
}

// P12.1, P12.2: lists of every length up to 299, taken one by one.
func TestEveryLength(t *testing.T) {
	for n := range 300 {
		l := some(n, 1)
		wantAll(t, draws.New(l), l)
	}
}

// P12.1: Ids of a whole list, each of the draw that is next.
func TestIds(t *testing.T) {
	l := some(100, 1)
	d := draws.New(l)
	for i, k := range l {
		wantId(t, d, idOf(k))
		wantLeft(t, d, len(l)-i-1)
	}
	wantNone(t, d, api.ErrDraw)
}

// P12.1, P12.2: every count, of every length; those behind are next.
func TestSomeEveryCount(t *testing.T) {
	for length := range 40 {
		l := some(length, 1)
		for n := range length + 1 {
			d := draws.New(l)
			wantSome(t, d, n, l[:n])
			wantAll(t, d, l[n:])
		}
	}
}

// P12.1, R1, R2: counts that may not be, ahead of all, within and at the end: none is gone.
func TestSomeWrong(t *testing.T) {
	l := some(9, 1)
	for gone := range len(l) + 1 {
		d := draws.New(l)
		wantSome(t, d, gone, l[:gone])
		left := len(l) - gone
		for _, n := range []int{-1, -2, -9, -10, math.MinInt32, math.MinInt + 1, math.MinInt} {
			wantSomeWrong(t, d, n, api.ErrArg)
			wantLeft(t, d, left)
		}
		for _, n := range []int{left + 1, left + 2, 10, 255, 256, math.MaxInt32, math.MaxInt - 1, math.MaxInt} {
			wantSomeWrong(t, d, n, api.ErrDraw)
			wantLeft(t, d, left)
		}
		wantAll(t, d, l[gone:])
	}
}

// P12.1: none are there to be had always.
func TestSomeOfNone(t *testing.T) {
	for _, l := range [][]api.Key{nil, {}, {{1}}} {
		d := draws.New(l)
		wantSome(t, d, 0, nil)
		wantAll(t, d, l)
		wantSome(t, d, 0, nil)
		wantNone(t, d, api.ErrDraw)
	}
}

// P12.1: those of More stand behind the others, however many are gone, and whatever it is called with.
func TestMore(t *testing.T) {
	for had := range 20 {
		for gone := range had + 1 {
			for more := range 20 {
				l, behind := some(had, 1), some(more, 2)
				d := draws.New(l)
				wantSome(t, d, gone, l[:gone])
				d.More(behind)
				wantAll(t, d, append(l[gone:], behind...))
			}
		}
	}
}

// P12.1: draws come again where none was left.
func TestMoreOfNone(t *testing.T) {
	d := draws.New(nil)
	for i := range byte(5) {
		wantNone(t, d, api.ErrDraw)
		d.More(nil)
		d.More([]api.Key{})
		wantNone(t, d, api.ErrDraw)
		d.More([]api.Key{{i}})
		d.More(nil)
		wantAll(t, d, []api.Key{{i}})
	}
}

// P12.1: one by one, and taken in between.
func TestMoreOften(t *testing.T) {
	l := some(500, 1)
	d := draws.New(nil)
	at := 0
	for i, k := range l {
		d.More([]api.Key{k})
		if i%3 == 0 {
			wantNext(t, d, l[at])
			at++
		}
	}
	wantAll(t, d, l[at:])
}

// P12.2: draws that are like others are handed out as often as they were handed in.
func TestLike(t *testing.T) {
	like := []api.Key{{7}, {7}, {}, {}, {7}}
	d := draws.New(like)
	d.More(like)
	wantAll(t, d, slices.Concat(like, like))
}

// P12.2: many, each once, whatever they are asked by.
func TestManyOnce(t *testing.T) {
	l := some(70000, 1)
	d := draws.New(l)
	for at, step := 0, 0; at < len(l); step++ {
		switch n := min(step%50, len(l)-at); step % 3 {
		case 0:
			wantSome(t, d, n, l[at:at+n])
			at += n
		case 1:
			wantNext(t, d, l[at])
			at++
		default:
			wantId(t, d, idOf(l[at]))
			at++
		}
		wantLeft(t, d, len(l)-at)
	}
	wantNone(t, d, api.ErrDraw)
}

// P12.2, R1, R2: nil Draws tell ErrNil ahead of all else, and take nothing.
func TestNil(t *testing.T) {
	var d *draws.Draws
	for range 2 {
		wantNone(t, d, api.ErrNil)
		for _, n := range []int{math.MinInt, -1, 0, 1, 2, math.MaxInt} {
			wantSomeWrong(t, d, n, api.ErrNil)
		}
		d.More(some(3, 1))
		d.More(nil)
	}
}

// R3: nil and empty are one.
func TestEmpty(t *testing.T) {
	for _, l := range [][]api.Key{nil, {}, make([]api.Key, 0, 9)} {
		d := draws.New(l)
		if d == nil {
			t.Fatal("New: nil")
		}
		wantNone(t, d, api.ErrDraw)
		d.More(l)
		wantNone(t, d, api.ErrDraw)
	}
}

// withRoom has the keys of l, and keys that are no one's in its spare room.
func withRoom(l []api.Key) []api.Key {
	return append(slices.Clone(l), some(8, 0xee)...)[:len(l)]
}

// whole is l with its spare room.
func whole(l []api.Key) []api.Key {
	return l[:cap(l)]
}

// spoil writes over all of l, and over its spare room.
func spoil(l []api.Key) {
	for i := range whole(l) {
		whole(l)[i] = api.Key{0xbd, byte(i)}
	}
}

// R4: neither what is handed in nor its spare room is changed.
func TestArgumentsStay(t *testing.T) {
	for n := range 20 {
		l, more := withRoom(some(n, 1)), withRoom(some(n, 2))
		wantL, wantMore := slices.Clone(whole(l)), slices.Clone(whole(more))
		d := draws.New(l)
		d.More(more)
		d.More(some(5, 3))
		for range n + 1 {
			got, _ := d.Some(1)
			spoil(got)
			d.Id()
			d.More(more)
		}
		if !slices.Equal(whole(l), wantL) || !slices.Equal(whole(more), wantMore) {
			t.Errorf("lists of %d were changed", n)
		}
	}
}

// R4: what is handed in isn't kept: written over, it changes no draw.
func TestArgumentsNotKept(t *testing.T) {
	for n := range 20 {
		l, more := withRoom(some(n, 1)), withRoom(some(n, 2))
		d := draws.New(l)
		spoil(l)
		d.More(more)
		spoil(more)
		wantAll(t, d, append(some(n, 1), some(n, 2)...))

		more = withRoom(some(n, 3))
		d.More(more)
		spoil(more)
		wantAll(t, d, some(n, 3))
	}
}

// R4: what was answered, written over with its spare room, changes neither what is left nor an earlier answer.
func TestAnswersApart(t *testing.T) {
	l := some(60, 1)
	for n := range 15 {
		d := draws.New(l)
		first := wantSome(t, d, n, l[:n])
		keep := slices.Clone(whole(first))
		second := wantSome(t, d, n, l[n:2*n])
		spoil(second)
		if !slices.Equal(whole(first), keep) {
			t.Errorf("Some(%d): an earlier answer was changed", n)
		}
		spoil(first)
		third := wantSome(t, d, n, l[2*n:3*n])
		d.More(some(9, 2))
		spoil(third)
		wantAll(t, d, append(slices.Clone(l[3*n:]), some(9, 2)...))
	}
}

// R4: an answer stays as it was, whatever the draws go through.
func TestAnswersStay(t *testing.T) {
	l := some(30, 1)
	for n := range len(l) {
		d := draws.New(l)
		got := wantSome(t, d, n, l[:n])
		keep := slices.Clone(whole(got))
		for i := range byte(10) {
			d.More(some(7, i))
			d.Next()
			d.Some(3)
			d.Id()
		}
		if !slices.Equal(whole(got), keep) {
			t.Errorf("Some(%d): what was answered was changed", n)
		}
	}
}

// R4, P12.2: in the spare room of an answer stands no draw that is left.
func TestRoomEmpty(t *testing.T) {
	l := some(100, 1)
	for n := range len(l) {
		got, _ := draws.New(l).Some(n)
		for i, k := range whole(got)[len(got):] {
			if k != (api.Key{}) {
				t.Errorf("Some(%d): behind the answer, at %d, stands %x", n, i, k)
			}
		}
	}
}

// R5: draws of one list are apart.
func TestApart(t *testing.T) {
	l := some(12, 1)
	a, b := draws.New(l), draws.New(l)
	wantSome(t, a, 7, l[:7])
	b.More(some(3, 2))
	a.More(some(4, 3))
	wantAll(t, b, append(slices.Clone(l), some(3, 2)...))
	wantAll(t, a, append(slices.Clone(l[7:]), some(4, 3)...))
}

// told is all that draws of l answer, taken in every way.
func told(l, more []api.Key) (out []api.Key) {
	d := draws.New(l)
	for d.Left() > 4 {
		k, _ := d.Next()
		id, _ := d.Id()
		next, _ := d.Some(2)
		out = append(append(out, k, api.Key(append(id[:], id[:]...))), next...)
	}
	d.More(more)
	rest, _ := d.Some(d.Left())
	return append(out, rest...)
}

// R5: what others do beside them changes no answer; they may have one list.
func TestSameAgain(t *testing.T) {
	l, more := withRoom(some(200, 1)), withRoom(some(50, 2))
	want := told(l, more)
	var all sync.WaitGroup
	for range 8 {
		all.Go(func() {
			for range 20 {
				if !slices.Equal(told(l, more), want) {
					t.Error("not the same again")
				}
			}
		})
	}
	all.Wait()
}

// step asks d and a plain list for the same, and tells the list behind it.
func step(t *testing.T, d *draws.Draws, left []api.Key, what, n int) []api.Key {
	t.Helper()
	switch {
	case what == 0:
		more := some(max(n, 0), byte(n)+3)
		d.More(more)
		left = slices.Concat(left, more)
	case what == 1 && n < 0:
		wantSomeWrong(t, d, n, api.ErrArg)
	case what == 1 && n > len(left):
		wantSomeWrong(t, d, n, api.ErrDraw)
	case what == 1:
		spoil(wantSome(t, d, n, left[:n]))
		left = left[n:]
	case len(left) == 0:
		wantNone(t, d, api.ErrDraw)
	case what == 2:
		wantNext(t, d, left[0])
		left = left[1:]
	default:
		wantId(t, d, idOf(left[0]))
		left = left[1:]
	}
	wantLeft(t, d, len(left))
	return left
}

// P12.1, P12.2: many walks, each step held against a plain list.
func TestWalks(t *testing.T) {
	r := rand.New(rand.NewSource(12))
	for range 300 {
		left := some(r.Intn(20), 1)
		d := draws.New(left)
		for range 100 {
			left = step(t, d, left, r.Intn(4), r.Intn(14)-2)
		}
		wantAll(t, d, left)
	}
}

func FuzzDraws(f *testing.F) {
	f.Add(0, []byte{})
	f.Add(2, []byte{1, 3, 1, 0xff, 2, 0})
	f.Add(3, []byte{2, 0, 1, 3, 0, 2, 1, 2, 3, 0, 2, 0, 3, 0, 1, 0})
	f.Fuzz(func(t *testing.T, n int, steps []byte) {
		left := some(min(max(n, 0), 1000), 1)
		d := draws.New(left)
		for i := 0; i+1 < len(steps); i += 2 {
			left = step(t, d, left, int(steps[i]%4), int(int8(steps[i+1])))
		}
		wantAll(t, d, left)
	})
}
