package matrix_test

import (
	"bytes"
	"math"
	"math/bits"
	"math/rand"
	"slices"
	"sync"
	"testing"

	"scrinium/api"
	"scrinium/gf"
	"scrinium/matrix"
)

// product is that of x and y in the field, by the long way: as polynomials, whose remainder by 11D is left.
func product(x, y byte) byte {
	p := 0
	for i := range 8 {
		if y>>i&1 == 1 {
			p ^= int(x) << i
		}
	}
	for i := 14; i >= 8; i-- {
		if p>>i&1 == 1 {
			p ^= 0x11d << (i - 8)
		}
	}
	return byte(p)
}

// inverse is that of the byte x, sought among all bytes.
func inverse(x byte) byte {
	for y := range 256 {
		if product(x, byte(y)) == 1 {
			return byte(y)
		}
	}
	return 0
}

// multiplied is a times b, byte by byte.
func multiplied(a, b [][]byte) [][]byte {
	var out [][]byte
	for i := range a {
		row := make([]byte, len(b[0]))
		for j := range row {
			for x := range b {
				row[j] ^= product(a[i][x], b[x][j])
			}
		}
		out = append(out, row)
	}
	return out
}

func unit(n int) [][]byte {
	var out [][]byte
	for i := range n {
		row := make([]byte, n)
		row[i] = 1
		out = append(out, row)
	}
	return out
}

// part is m without those rows and columns whose bits aren't set.
func part(m [][]byte, rows, columns uint) [][]byte {
	var out [][]byte
	for i := range m {
		if rows>>i&1 == 0 {
			continue
		}
		var row []byte
		for j, x := range m[i] {
			if columns>>j&1 == 1 {
				row = append(row, x)
			}
		}
		out = append(out, row)
	}
	return out
}

// determinant is told by going along the first row; there are no signs in the field.
func determinant(m [][]byte) byte {
	if len(m) == 0 {
		return 1
	}
	all := uint(1)<<len(m) - 1
	d := byte(0)
	for j, x := range m[0] {
		if x != 0 {
			d ^= product(x, determinant(part(m, all&^1, all&^(1<<j))))
		}
	}
	return d
}

// adjugated is the inverse of m by determinants; nil if there is none.
func adjugated(m [][]byte) [][]byte {
	d := inverse(determinant(m))
	if d == 0 {
		return nil
	}
	all := uint(1)<<len(m) - 1
	var out [][]byte
	for i := range m {
		row := make([]byte, len(m))
		for j := range m {
			row[j] = product(d, determinant(part(m, all&^(1<<j), all&^(1<<i))))
		}
		out = append(out, row)
	}
	return out
}

// ranked is the size of the greatest square of m whose determinant isn't 0.
func ranked(m [][]byte) int {
	rank := 0
	for rows := range uint(1) << len(m) {
		for columns := range uint(1) << len(m[0]) {
			size := bits.OnesCount(rows)
			if size > rank && size == bits.OnesCount(columns) && determinant(part(m, rows, columns)) != 0 {
				rank = size
			}
		}
	}
	return rank
}

func like(a, b [][]byte) bool {
	return slices.EqualFunc(a, b, bytes.Equal)
}

// sample is a matrix whose bytes are all below that bound.
func sample(r *rand.Rand, rows, columns, below int) [][]byte {
	m := make([][]byte, rows)
	for i := range m {
		m[i] = make([]byte, columns)
		for j := range m[i] {
			m[i][j] = byte(r.Intn(below))
		}
	}
	return m
}

// wrong are those that are no matrices.
func wrong() [][][]byte {
	l := [][][]byte{
		nil, {}, {nil}, {{}}, {{}, {}}, {nil, nil, nil},
		{{1}, nil}, {nil, {1}}, {{1}, {}, {1}}, {{1, 2}, {3}}, {{1}, {2, 3}}, {{1, 2}, {3, 4}, {5}}, {{1}, {2, 3}, {4}},
		{make([]byte, 256)}, {make([]byte, 65536)}, blank(256, 1), blank(256, 256), blank(300, 2), blank(2, 256), blank(255, 256), blank(256, 255), blank(256, 0), blank(255, 0),
	}
	for _, odd := range []int{0, 1, 127, 254} {
		for _, length := range []int{0, 254, 256} {
			m := blank(255, 255)
			m[odd] = make([]byte, length)
			l = append(l, m)
		}
	}
	return l
}

func blank(rows, columns int) [][]byte {
	m := make([][]byte, rows)
	for i := range m {
		m[i] = make([]byte, columns)
	}
	return m
}

func wantMatrix(t *testing.T, what string, got [][]byte, e api.Errno, want [][]byte) {
	t.Helper()
	if e != api.OK || !like(got, want) {
		t.Errorf("%s: %x, error %d, want %x", what, got, e, want)
	}
}

func wantNone(t *testing.T, what string, got [][]byte, e, want api.Errno) {
	t.Helper()
	if e != want || len(got) != 0 {
		t.Errorf("%s: %d rows, error %d, want error %d", what, len(got), e, want)
	}
}

// P8.1: the chapter's example, and others that are told by hand.
func TestKnown(t *testing.T) {
	f := gf.Make()
	m, e := matrix.Inverse(f, [][]byte{{2}})
	wantMatrix(t, "inverse of 02", m, e, [][]byte{{0x8e}})
	m, e = matrix.Inverse(f, [][]byte{{0, 1}, {2, 0}})
	wantMatrix(t, "inverse of rows exchanged", m, e, [][]byte{{0, 0x8e}, {1, 0}})
	m, e = matrix.Inverse(f, [][]byte{{1, 2}, {0, 1}})
	wantMatrix(t, "inverse of a row added", m, e, [][]byte{{1, 2}, {0, 1}})
	m, e = matrix.Mul(f, [][]byte{{1, 2}, {0, 3}}, [][]byte{{1, 0x80, 0}, {2, 2, 1}})
	wantMatrix(t, "product", m, e, [][]byte{{5, 0x84, 2}, {6, 6, 3}})
	m, e = matrix.Mul(f, [][]byte{{0x80}}, [][]byte{{2}})
	wantMatrix(t, "80 by 02", m, e, [][]byte{{0x1d}})
	m, e = matrix.Cauchy(f, 1, 1)
	wantMatrix(t, "Cauchy of 1 and 1", m, e, [][]byte{{1}})
	m, e = matrix.Cauchy(f, 2, 2)
	wantMatrix(t, "Cauchy of 2 and 2", m, e, [][]byte{{0x8e, 0xf4}, {0xf4, 0x8e}})
	if got := matrix.Rank(f, [][]byte{{1, 2, 3}, {2, 4, 6}, {0, 0, 1}}); got != 2 {
		t.Errorf("rank %d, want 2", got)
	}
}

// P8.1: from 1 to 255 rows and columns, whatever stands in them.
func TestRight(t *testing.T) {
	for _, rows := range []int{1, 2, 3, 128, 254, 255} {
		for _, columns := range []int{1, 2, 3, 128, 254, 255} {
			if !matrix.Right(blank(rows, columns)) {
				t.Errorf("%d rows, %d columns: no matrix", rows, columns)
			}
		}
	}
	row := []byte{1, 2, 3}
	if !matrix.Right([][]byte{row, row[:3:3], row}) {
		t.Error("one row thrice: no matrix")
	}
	for i, m := range wrong() {
		if matrix.Right(m) {
			t.Errorf("wrong one %d: a matrix", i)
		}
	}
}

// P8.1: units of all sizes, and nothing for others.
func TestUnit(t *testing.T) {
	f := gf.Make()
	r := rand.New(rand.NewSource(80))
	for n := 1; n <= 255; n++ {
		if got := matrix.Unit(n); !like(got, unit(n)) {
			t.Fatalf("unit of %d: %x", n, got)
		}
	}
	for _, n := range []int{0, -1, 256, 257, 512, 65537, 1 << 31, 1<<32 + 1, math.MaxInt, math.MinInt, math.MinInt + 1} {
		if got := matrix.Unit(n); len(got) != 0 {
			t.Errorf("unit of %d: %d rows", n, len(got))
		}
	}
	for n := 1; n < 20; n++ {
		m := sample(r, n, 7, 256)
		got, e := matrix.Mul(f, matrix.Unit(n), m)
		wantMatrix(t, "unit by a matrix", got, e, m)
		got, e = matrix.Mul(f, m, matrix.Unit(7))
		wantMatrix(t, "a matrix by the unit", got, e, m)
	}
}

// P8.1: products of all shapes, reckoned anew.
func TestMulReckoned(t *testing.T) {
	f := gf.Make()
	r := rand.New(rand.NewSource(81))
	for rows := 1; rows <= 5; rows++ {
		for between := 1; between <= 5; between++ {
			for columns := 1; columns <= 5; columns++ {
				for _, below := range []int{1, 2, 256} {
					a, b := sample(r, rows, between, below), sample(r, between, columns, 256)
					got, e := matrix.Mul(f, a, b)
					wantMatrix(t, "product", got, e, multiplied(a, b))
				}
			}
		}
	}
	for _, c := range [][3]int{{255, 1, 255}, {1, 255, 1}, {255, 3, 2}, {2, 255, 3}, {3, 2, 255}, {40, 255, 40}} {
		a, b := sample(r, c[0], c[1], 256), sample(r, c[1], c[2], 256)
		if got, e := matrix.Mul(f, a, b); e != api.OK || !like(got, multiplied(a, b)) {
			t.Errorf("%d: a wrong product, error %d", c, e)
		}
	}
	if got, e := matrix.Mul(f, blank(255, 255), blank(255, 255)); e != api.OK || !like(got, blank(255, 255)) {
		t.Errorf("the greatest of noughts: error %d", e)
	}
}

// P8.1: no product of what is no matrix, nor where a has not as many columns as b rows.
func TestMulWrong(t *testing.T) {
	f := gf.Make()
	for _, m := range wrong() {
		for _, n := range []int{1, 2, 3, 255} {
			got, e := matrix.Mul(f, m, matrix.Unit(n))
			wantNone(t, "a no matrix", got, e, api.ErrArg)
			got, e = matrix.Mul(f, matrix.Unit(n), m)
			wantNone(t, "b no matrix", got, e, api.ErrArg)
		}
		got, e := matrix.Mul(f, m, m)
		wantNone(t, "neither a matrix", got, e, api.ErrArg)
	}
	for _, c := range [][4]int{{1, 1, 2, 1}, {1, 2, 1, 2}, {2, 3, 2, 3}, {3, 2, 3, 2}, {255, 1, 255, 1}, {1, 255, 254, 1}, {1, 254, 255, 1}} {
		got, e := matrix.Mul(f, blank(c[0], c[1]), blank(c[2], c[3]))
		wantNone(t, "shapes that don't fit", got, e, api.ErrArg)
	}
}

// wantInverse holds the inverse of m against that by determinants.
func wantInverse(t *testing.T, f *gf.Tables, m [][]byte) {
	t.Helper()
	got, e := matrix.Inverse(f, m)
	if want := adjugated(m); want != nil {
		wantMatrix(t, "inverse", got, e, want)
	} else {
		wantNone(t, "inverse", got, e, api.ErrBad)
	}
}

// P8.1: each matrix of one byte, each of two rows of small bytes, and many others, reckoned anew by determinants; many of few kinds of bytes have no inverse, or noughts where a row is to lead.
func TestInverseReckoned(t *testing.T) {
	f := gf.Make()
	r := rand.New(rand.NewSource(82))
	for x := range 256 {
		wantInverse(t, f, [][]byte{{byte(x)}})
	}
	for x := range 256 {
		wantInverse(t, f, [][]byte{{byte(x) & 3, byte(x) >> 2 & 3}, {byte(x) >> 4 & 3, byte(x) >> 6}})
	}
	for range 150 {
		for n := 1; n <= 5; n++ {
			for _, below := range []int{2, 3, 256} {
				wantInverse(t, f, sample(r, n, n, below))
			}
		}
	}
}

// P8.1: no inverse of what is no matrix, nor where there are not as many rows as columns.
func TestInverseWrong(t *testing.T) {
	f := gf.Make()
	for _, m := range wrong() {
		got, e := matrix.Inverse(f, m)
		wantNone(t, "no matrix", got, e, api.ErrArg)
	}
	for _, c := range [][2]int{{1, 2}, {2, 1}, {3, 2}, {2, 3}, {255, 1}, {1, 255}, {255, 254}, {254, 255}} {
		got, e := matrix.Inverse(f, blank(c[0], c[1]))
		wantNone(t, "no square", got, e, api.ErrArg)
	}
}

// turned is m, its rows its columns.
func turned(m [][]byte) [][]byte {
	out := blank(len(m[0]), len(m))
	for i, row := range m {
		for j, x := range row {
			out[j][i] = x
		}
	}
	return out
}

// P8.1: there is none where a row is a sum of multiples of others, be it the first or the last, or a column is.
func TestInverseBad(t *testing.T) {
	f := gf.Make()
	r := rand.New(rand.NewSource(83))
	for _, n := range []int{1, 2, 3, 16, 60, 255} {
		got, e := matrix.Inverse(f, blank(n, n))
		wantNone(t, "noughts", got, e, api.ErrBad)
		for _, at := range []int{0, n / 2, n - 1} {
			m := sample(r, n, n, 256)
			clear(m[at])
			for i := range n {
				for j := range n {
					if i != at {
						m[at][j] ^= product(byte(i+3), m[i][j])
					}
				}
			}
			got, e := matrix.Inverse(f, m)
			wantNone(t, "a row too many", got, e, api.ErrBad)
			got, e = matrix.Inverse(f, turned(m))
			wantNone(t, "a column too many", got, e, api.ErrBad)
		}
	}
}

// P8.2: a matrix times its inverse is the unit, from either side, up to the greatest.
func TestTimesInverse(t *testing.T) {
	f := gf.Make()
	r := rand.New(rand.NewSource(84))
	for _, n := range []int{1, 2, 3, 7, 16, 33, 64, 128, 254, 255} {
		m := sample(r, n, n, 256)
		inv, e := matrix.Inverse(f, m)
		for e == api.ErrBad {
			m = sample(r, n, n, 256)
			inv, e = matrix.Inverse(f, m)
		}
		if e != api.OK {
			t.Fatalf("%d rows: error %d", n, e)
		}
		got, e := matrix.Mul(f, m, inv)
		behind, e2 := matrix.Mul(f, inv, m)
		if e != api.OK || e2 != api.OK || !like(got, unit(n)) || !like(behind, unit(n)) {
			t.Errorf("%d rows: not the unit, errors %d and %d", n, e, e2)
		}
		back, e := matrix.Inverse(f, inv)
		if e != api.OK || !like(back, m) {
			t.Errorf("%d rows: the inverse's inverse is another, error %d", n, e)
		}
	}
}

// P8.1, P8.2: rows in any order, turned round, have the inverse of which the columns are turned so.
func TestInverseOfRowsExchanged(t *testing.T) {
	f := gf.Make()
	r := rand.New(rand.NewSource(85))
	for _, n := range []int{1, 2, 5, 40, 255} {
		m, want := blank(n, n), blank(n, n)
		for i, j := range r.Perm(n) {
			m[i][j], want[j][i] = byte(i%255+1), inverse(byte(i%255+1))
		}
		if got, e := matrix.Inverse(f, m); e != api.OK || !like(got, want) {
			t.Errorf("%d rows: a wrong inverse, error %d", n, e)
		}
	}
}

// P8.1: Cauchy matrices of all small shapes and of those at the edges, reckoned anew.
func TestCauchyReckoned(t *testing.T) {
	f := gf.Make()
	var inverses [256]byte
	for x := range inverses {
		inverses[x] = inverse(byte(x))
	}
	for n := 1; n <= 255; n++ {
		for k := 1; k <= 256-n; k++ {
			if n > 9 && k > 9 && n+k < 255 && (n+k)%50 != 0 {
				continue
			}
			want := blank(n, k)
			for i := range n {
				for j := range k {
					want[i][j] = inverses[(i+k)^j]
				}
			}
			if got, e := matrix.Cauchy(f, n, k); e != api.OK || !like(got, want) {
				t.Fatalf("%d rows, %d columns: a wrong matrix, error %d", n, k, e)
			}
		}
	}
}

// P8.1: no Cauchy matrix below 1, above 255, or above 256 in all, nor where that sum wraps round.
func TestCauchyWrong(t *testing.T) {
	f := gf.Make()
	edges := []int{math.MinInt, math.MinInt + 1, math.MinInt32, -256, -255, -1, 0, 1, 2, 127, 128, 129, 200, 254, 255, 256, 257, 1 << 16, math.MaxInt32, 1 << 32, 1<<32 + 1, math.MaxInt - 1, math.MaxInt}
	for _, n := range edges {
		for _, k := range edges {
			right := n >= 1 && k >= 1 && n <= 255 && k <= 255 && n+k <= 256
			got, e := matrix.Cauchy(f, n, k)
			if right && (e != api.OK || len(got) != n) {
				t.Errorf("%d and %d: %d rows, error %d", n, k, len(got), e)
			}
			if !right && (e != api.ErrArg || len(got) != 0) {
				t.Errorf("%d and %d: %d rows, error %d, want error %d", n, k, len(got), e, api.ErrArg)
			}
		}
	}
}

// P8.2: each square of each small Cauchy matrix has an inverse, by which it is the unit.
func TestCauchySquares(t *testing.T) {
	f := gf.Make()
	for n := 1; n <= 6; n++ {
		for k := 1; k <= 6; k++ {
			m, _ := matrix.Cauchy(f, n, k)
			for rows := range uint(1) << n {
				for columns := range uint(1) << k {
					if rows == 0 || bits.OnesCount(rows) != bits.OnesCount(columns) {
						continue
					}
					square := part(m, rows, columns)
					inv, e := matrix.Inverse(f, square)
					if e != api.OK || !like(multiplied(square, inv), unit(len(square))) {
						t.Fatalf("%d and %d, rows %b, columns %b: error %d", n, k, rows, columns, e)
					}
				}
			}
		}
	}
}

// P8.2: squares of great Cauchy matrices, their rows and columns in any order.
func TestCauchyGreatSquares(t *testing.T) {
	f := gf.Make()
	r := rand.New(rand.NewSource(86))
	for _, c := range [][3]int{{255, 1, 1}, {1, 255, 1}, {128, 128, 128}, {128, 128, 50}, {200, 56, 56}, {56, 200, 56}, {200, 56, 20}, {250, 6, 6}, {30, 30, 17}} {
		m, e := matrix.Cauchy(f, c[0], c[1])
		if e != api.OK {
			t.Fatalf("%d: error %d", c, e)
		}
		var square [][]byte
		columns := r.Perm(c[1])[:c[2]]
		for _, i := range r.Perm(c[0])[:c[2]] {
			var row []byte
			for _, j := range columns {
				row = append(row, m[i][j])
			}
			square = append(square, row)
		}
		inv, e := matrix.Inverse(f, square)
		if e != api.OK || !like(multiplied(square, inv), unit(c[2])) {
			t.Errorf("%d: error %d", c, e)
		}
		if got := matrix.Rank(f, m); got != min(c[0], c[1]) {
			t.Errorf("%d: rank %d", c, got)
		}
	}
}

// P8.1: ranks of all small shapes, reckoned anew by determinants.
func TestRankReckoned(t *testing.T) {
	f := gf.Make()
	r := rand.New(rand.NewSource(87))
	for rows := 1; rows <= 4; rows++ {
		for columns := 1; columns <= 4; columns++ {
			for range 25 {
				for _, below := range []int{1, 2, 3, 256} {
					m := sample(r, rows, columns, below)
					if got, across := matrix.Rank(f, m), matrix.Rank(f, turned(m)); got != ranked(m) || across != got {
						t.Errorf("%x: rank %d, turned %d, want %d", m, got, across, ranked(m))
					}
				}
			}
		}
	}
}

// P8.1: a product's rank is no greater than what lies between, and here it is just that; up to the greatest.
func TestRankOfProducts(t *testing.T) {
	f := gf.Make()
	for _, c := range [][3]int{{255, 1, 255}, {100, 28, 220}, {128, 128, 128}, {200, 3, 7}, {7, 3, 200}, {1, 1, 255}, {255, 1, 1}} {
		a, e := matrix.Cauchy(f, c[0], c[1])
		b, e2 := matrix.Cauchy(f, c[1], min(c[2], 256-c[1]))
		m, e3 := matrix.Mul(f, a, b)
		if e != api.OK || e2 != api.OK || e3 != api.OK {
			t.Fatalf("%d: errors %d, %d, %d", c, e, e2, e3)
		}
		if got := matrix.Rank(f, m); got != c[1] {
			t.Errorf("%d: rank %d", c, got)
		}
	}
	if got := matrix.Rank(f, matrix.Unit(255)); got != 255 {
		t.Errorf("the greatest unit: rank %d", got)
	}
}

// P8.1: what is no matrix has rank 0, and so have noughts.
func TestRankNone(t *testing.T) {
	f := gf.Make()
	for i, m := range wrong() {
		for _, row := range m {
			for j := range row {
				row[j] = 1
			}
		}
		if got := matrix.Rank(f, m); got != 0 {
			t.Errorf("wrong one %d: rank %d", i, got)
		}
	}
	for _, c := range [][2]int{{1, 1}, {1, 255}, {255, 1}, {255, 255}} {
		if got := matrix.Rank(f, blank(c[0], c[1])); got != 0 {
			t.Errorf("%d noughts: rank %d", c, got)
		}
	}
}

// P8.1, R1, R2: nil tables answer ErrNil, or 0, at right arguments and wrong ones alike.
func TestNil(t *testing.T) {
	for _, m := range append(wrong(), [][]byte{{1}}, [][]byte{{1, 2}}, unit(3), blank(2, 2)) {
		got, e := matrix.Inverse(nil, m)
		wantNone(t, "inverse by nil", got, e, api.ErrNil)
		got, e = matrix.Mul(nil, m, m)
		wantNone(t, "product by nil", got, e, api.ErrNil)
		if rank := matrix.Rank(nil, m); rank != 0 {
			t.Errorf("%x: rank %d by nil", m, rank)
		}
	}
	for _, n := range []int{math.MinInt, 0, 1, 2, 255, 256, math.MaxInt} {
		got, e := matrix.Cauchy(nil, n, 1)
		wantNone(t, "Cauchy by nil", got, e, api.ErrNil)
	}
}

// roomy is a sample whose rows, and whose list of rows, have spare room.
func roomy(r *rand.Rand, rows, columns, below int) [][]byte {
	m := sample(r, rows+3, columns+5, below)
	for i := range m {
		m[i] = m[i][:columns]
	}
	return m[:rows]
}

// room is a copy of all of m, spare room included.
func room(m [][]byte) [][]byte {
	all := slices.Clone(m[:cap(m)])
	for i, row := range all {
		all[i] = bytes.Clone(row[:cap(row)])
	}
	return all
}

// R4: neither what is handed in nor its spare room is changed, be it an error or not; and no rows of it are exchanged.
func TestArgumentsStay(t *testing.T) {
	f := gf.Make()
	r := rand.New(rand.NewSource(88))
	for rows := 1; rows < 8; rows++ {
		for columns := 1; columns < 8; columns++ {
			for _, below := range []int{2, 256} {
				m, other := roomy(r, rows, columns, below), roomy(r, columns, rows, below)
				before, otherBefore, heads := room(m), room(other), slices.Clone(m)
				matrix.Right(m)
				matrix.Rank(f, m)
				matrix.Inverse(f, m)
				matrix.Mul(f, m, other)
				matrix.Mul(f, other, m)
				matrix.Mul(f, m, m)
				if !like(room(m), before) || !like(room(other), otherBefore) {
					t.Errorf("%d rows, %d columns: an argument was changed", rows, columns)
				}
				for i := range m {
					if &m[i][0] != &heads[i][0] {
						t.Errorf("%d rows, %d columns: row %d was exchanged", rows, columns, i)
					}
				}
			}
		}
	}
}

// spoil changes all of m, row by row, spare room included.
func spoil(m [][]byte) {
	for _, row := range m[:cap(m)] {
		row = row[:cap(row)]
		for i := range row {
			row[i] ^= 0xff
		}
	}
	clear(m[:cap(m)])
}

// R4: an answer shares no memory with an argument or an earlier answer, not even where it is like one of them.
func TestAnswersStay(t *testing.T) {
	f := gf.Make()
	for n := 1; n < 12; n++ {
		calls := map[string]func(m [][]byte) ([][]byte, api.Errno){
			"unit":    func(m [][]byte) ([][]byte, api.Errno) { return matrix.Unit(n), api.OK },
			"inverse": func(m [][]byte) ([][]byte, api.Errno) { return matrix.Inverse(f, m) },
			"by unit": func(m [][]byte) ([][]byte, api.Errno) { return matrix.Mul(f, m, unit(n)) },
			"unit by": func(m [][]byte) ([][]byte, api.Errno) { return matrix.Mul(f, unit(n), m) },
			"twice":   func(m [][]byte) ([][]byte, api.Errno) { return matrix.Mul(f, m, m) },
		}
		for name, call := range calls {
			m := unit(n)
			first, e := call(m)
			second, e2 := call(m)
			spoil(second)
			wantMatrix(t, name+", an answer spoilt", first, e, unit(n))
			wantMatrix(t, name+", an argument with an answer spoilt", m, e2, unit(n))
			third, e := call(m)
			spoil(m)
			wantMatrix(t, name+", an argument spoilt", first, e, unit(n))
			spoil(first)
			wantMatrix(t, name+", an earlier answer spoilt", third, e, unit(n))
		}
		first, e := matrix.Cauchy(f, n, n)
		second, e2 := matrix.Cauchy(f, n, n)
		want := room(first)
		spoil(second)
		wantMatrix(t, "Cauchy, an answer spoilt", first, max(e, e2), want)
	}
}

// Ways, R4: a row of an answer that grows doesn't grow into another one.
func TestRowsApart(t *testing.T) {
	f := gf.Make()
	for _, n := range []int{1, 2, 3, 8, 100, 128} {
		cauchy, _ := matrix.Cauchy(f, n, n)
		inv, _ := matrix.Inverse(f, cauchy)
		square, _ := matrix.Mul(f, cauchy, cauchy)
		for name, m := range map[string][][]byte{"unit": matrix.Unit(n), "Cauchy": cauchy, "inverse": inv, "product": square} {
			var before [][]byte
			for _, row := range m {
				before = append(before, bytes.Clone(row))
			}
			for i := range m {
				_ = append(m[i], before[i]...)
				_ = append(m[i], bytes.Repeat([]byte{0xaa}, n*n)...)
				_ = append(m[i], 0xbb)
			}
			if len(m) != n || !like(m, before) {
				t.Errorf("%s of %d: a row was grown into", name, n)
			}
		}
	}
}

// R5: the same again, whatever was asked in between, by other tables, and from many sides at once.
func TestSameAgain(t *testing.T) {
	f := gf.Make()
	r := rand.New(rand.NewSource(89))
	m := sample(r, 12, 12, 256)
	inv, e := matrix.Inverse(f, m)
	square, e2 := matrix.Mul(f, m, m)
	cauchy, e3 := matrix.Cauchy(f, 9, 8)
	rank := matrix.Rank(f, m)
	var asked sync.WaitGroup
	for i := range 8 {
		asked.Add(1)
		go func() {
			defer asked.Done()
			tables := f
			if i%2 == 1 {
				tables = gf.Make()
			}
			for range 30 {
				matrix.Inverse(tables, [][]byte{{1, 1}, {1, 1}})
				got, e4 := matrix.Inverse(tables, m)
				twice, e5 := matrix.Mul(tables, m, m)
				again, e6 := matrix.Cauchy(tables, 9, 8)
				if e4 != e || e5 != e2 || e6 != e3 || !like(got, inv) || !like(twice, square) || !like(again, cauchy) || matrix.Rank(tables, m) != rank {
					t.Error("another answer")
				}
			}
		}()
	}
	asked.Wait()
}

func FuzzMatrix(f *testing.F) {
	f.Add([]byte{2}, 1)
	f.Add([]byte{1, 2, 2, 4}, 2)
	f.Add([]byte{1, 2, 3, 4, 5}, 2)
	f.Add([]byte{}, 0)
	f.Fuzz(func(t *testing.T, b []byte, columns int) {
		tables := gf.Make()
		var m [][]byte
		for columns > 0 && len(b) > 0 {
			cut := min(columns, len(b))
			m = append(m, b[:cut])
			b = b[cut:]
		}
		right := len(m) >= 1 && len(m) <= 255 && len(m[0]) <= 255 && len(m[len(m)-1]) == len(m[0])
		rank := matrix.Rank(tables, m)
		inv, e := matrix.Inverse(tables, m)
		square, e2 := matrix.Mul(tables, m, m)
		if matrix.Right(m) != right || !right && rank != 0 || right && rank > min(len(m), len(m[0])) {
			t.Fatalf("%x: right %t, rank %d", m, matrix.Right(m), rank)
		}
		if !right || len(m) != len(m[0]) {
			wantNone(t, "inverse", inv, e, api.ErrArg)
			wantNone(t, "product", square, e2, api.ErrArg)
			return
		}
		wantMatrix(t, "product", square, e2, multiplied(m, m))
		if rank < len(m) {
			wantNone(t, "inverse", inv, e, api.ErrBad)
			return
		}
		wantMatrix(t, "times the inverse", multiplied(m, inv), e, unit(len(m)))
	})
}
