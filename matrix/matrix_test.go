package matrix_test

import (
	"bytes"
	"fmt"
	"math"
	"math/rand"
	"slices"
	"testing"

	"shardlog/matrix"
)

// product is that of chapter 3's words, apart from package field: the
// polynomials are multiplied whole, and then divided by 11d.
func product(a, b byte) byte {
	p := 0
	for i := range 8 {
		if b>>i&1 == 1 {
			p ^= int(a) << i
		}
	}
	for i := 14; i >= 8; i-- {
		if p>>i&1 == 1 {
			p ^= 0x11d << (i - 8)
		}
	}
	return byte(p)
}

// products holds all of them, as great matrices ask for many.
var products = func() (t [256][256]byte) {
	for a := range t {
		for b := range t[a] {
			t[a][b] = product(byte(a), byte(b))
		}
	}
	return t
}()

// contrary is looked for among all elements; 0 of 0.
func contrary(a byte) byte {
	return byte(max(0, slices.Index(products[a][:], 1)))
}

// multiply is the product, cell by cell.
func multiply(a, b [][]byte) [][]byte {
	m := make([][]byte, len(a))
	for i := range a {
		for j := range b[0] {
			e := byte(0)
			for l := range b {
				e ^= products[a[i][l]][b[l][j]]
			}
			m[i] = append(m[i], e)
		}
	}
	return m
}

// identity is the matrix that changes nothing.
func identity(n int) [][]byte {
	m := make([][]byte, n)
	for i := range m {
		m[i] = make([]byte, n)
		m[i][i] = 1
	}
	return m
}

// determinant goes by the first row; in GF(256) plus and minus are one.
func determinant(m [][]byte) byte {
	if len(m) == 0 {
		return 1
	}
	d := byte(0)
	for j, e := range m[0] {
		var less [][]byte
		for _, row := range m[1:] {
			less = append(less, slices.Concat(row[:j], row[j+1:]))
		}
		d ^= products[e][determinant(less)]
	}
	return d
}

func same(a, b [][]byte) bool { return slices.EqualFunc(a, b, bytes.Equal) }

func copied(m [][]byte) [][]byte {
	c := make([][]byte, len(m))
	for i, row := range m {
		c[i] = slices.Clone(row)
	}
	return c
}

// chance is a matrix of elements by chance, the same at each run of the tests.
func chance(r *rand.Rand, high, wide int) [][]byte {
	m := make([][]byte, high)
	for i := range m {
		m[i] = make([]byte, wide)
		r.Read(m[i])
	}
	return m
}

// every calls f with each matrix of n rows and columns of these elements.
func every(n int, elements []byte, f func(m [][]byte)) {
	m := identity(n)
	var fill func(at int)
	fill = func(at int) {
		if at == n*n {
			f(m)
			return
		}
		for _, e := range elements {
			m[at/n][at%n] = e
			fill(at + 1)
		}
	}
	fill(0)
}

// choices calls f with each choice of k places of n, in rising order.
func choices(k, n int, f func(at []int)) {
	var choose func(at []int, from int)
	choose = func(at []int, from int) {
		if len(at) == k {
			f(at)
			return
		}
		for i := from; i < n; i++ {
			choose(append(at, i), i+1)
		}
	}
	choose(make([]int, 0, k), 0)
}

// orders calls f with each order of the places below n.
func orders(n int, f func(at []int)) {
	var put func(at []int)
	put = func(at []int) {
		if len(at) == n {
			f(at)
			return
		}
		for i := range n {
			if !slices.Contains(at, i) {
				put(append(at, i))
			}
		}
	}
	put(make([]int, 0, n))
}

// P4.1

func TestRight(t *testing.T) {
	for _, c := range []struct {
		m    [][]byte
		want bool
	}{
		{[][]byte{{0}}, true},
		{[][]byte{{1, 2, 3}}, true},
		{[][]byte{{1}, {2}, {3}}, true},
		{[][]byte{{0, 0}, {0, 0}, {0, 0}}, true},
		{make([][]byte, 0), false},
		{nil, false},
		{[][]byte{{}}, false},
		{[][]byte{nil}, false},
		{[][]byte{{}, nil}, false},
		{[][]byte{{}, {}}, false},
		{[][]byte{{1}, {}}, false},
		{[][]byte{{}, {1}}, false},
		{[][]byte{{1}, {1, 2}}, false},
		{[][]byte{{1, 2}, {1}}, false},
		{[][]byte{{1, 2}, {1, 2}, {1, 2, 3}}, false},
		{[][]byte{{1, 2}, {1, 2, 3}, {1, 2}}, false},
		{[][]byte{{1, 2}, nil, {1, 2}}, false},
	} {
		if x := matrix.Right(c.m); x != c.want {
			t.Errorf("Right(%x) = %v", c.m, x)
		}
	}
	if m := chance(rand.New(rand.NewSource(1)), 300, 700); !matrix.Right(m) {
		t.Error("300 rows of 700 aren't right")
	}
}

func TestMul(t *testing.T) {
	for _, c := range []struct{ a, b, want [][]byte }{
		{[][]byte{{0}}, [][]byte{{0xff}}, [][]byte{{0}}},
		{[][]byte{{0x80}}, [][]byte{{2}}, [][]byte{{0x1d}}},
		{[][]byte{{1, 2, 3}}, [][]byte{{4}, {5}, {6}}, [][]byte{{4 ^ 0x0a ^ 0x0a}}},
		{[][]byte{{4}, {5}}, [][]byte{{1, 2}}, [][]byte{{4, 8}, {5, 0x0a}}},
		{[][]byte{{1, 2}, {3, 0}}, [][]byte{{0, 1, 2}, {1, 1, 0x80}}, [][]byte{{2, 3, 0x1f}, {0, 3, 6}}},
		{[][]byte{{1, 1}}, [][]byte{{7}, {7}}, [][]byte{{0}}},
		{[][]byte{{0, 1}, {1, 0}}, [][]byte{{1, 2}, {3, 4}}, [][]byte{{3, 4}, {1, 2}}},
		{[][]byte{{1, 2}, {3, 4}}, [][]byte{{0, 1}, {1, 0}}, [][]byte{{2, 1}, {4, 3}}},
	} {
		if x := matrix.Mul(c.a, c.b); !same(x, c.want) {
			t.Errorf("Mul(%x, %x) = %x, want %x", c.a, c.b, x, c.want)
		}
	}
}

func TestMulOfAllShapes(t *testing.T) {
	r := rand.New(rand.NewSource(2))
	for i := range 6 * 6 * 6 * 6 {
		a, b := chance(r, 1+i%6, 1+i/6%6), chance(r, 1+i/36%6, 1+i/216)
		x := matrix.Mul(a, b)
		if len(a[0]) != len(b) {
			if len(x) != 0 {
				t.Errorf("Mul(%x, %x) = %x, want nothing", a, b, x)
			}
		} else if want := multiply(a, b); !same(x, want) {
			t.Errorf("Mul(%x, %x) = %x, want %x", a, b, x, want)
		}
	}
}

func TestMulOfGreatOnes(t *testing.T) {
	r := rand.New(rand.NewSource(3))
	for _, c := range [][3]int{{1, 700, 1}, {300, 1, 300}, {60, 70, 80}, {1, 1, 5000}} {
		a, b := chance(r, c[0], c[1]), chance(r, c[1], c[2])
		if !same(matrix.Mul(a, b), multiply(a, b)) {
			t.Errorf("Mul of %v is another one", c)
		}
	}
}

func TestMulWithOneChangesNothing(t *testing.T) {
	r := rand.New(rand.NewSource(4))
	for _, c := range [][2]int{{1, 1}, {1, 9}, {9, 1}, {7, 7}, {5, 200}, {255, 3}} {
		m := chance(r, c[0], c[1])
		if !same(matrix.Mul(matrix.One(c[0]), m), m) || !same(matrix.Mul(m, matrix.One(c[1])), m) {
			t.Errorf("One changes a matrix of %v", c)
		}
	}
}

func TestOne(t *testing.T) {
	for n := 1; n <= 255; n++ {
		if x := matrix.One(n); !same(x, identity(n)) {
			t.Errorf("One(%d) = %x", n, x)
		}
	}
}

func TestRows(t *testing.T) {
	m := [][]byte{{1, 2}, {3, 4}, {5, 6}}
	for _, c := range []struct {
		at   []int
		want [][]byte
	}{
		{[]int{0}, [][]byte{{1, 2}}},
		{[]int{2}, [][]byte{{5, 6}}},
		{[]int{0, 1, 2}, m},
		{[]int{2, 0}, [][]byte{{5, 6}, {1, 2}}},
		{[]int{1, 1, 0, 1}, [][]byte{{3, 4}, {3, 4}, {1, 2}, {3, 4}}},
		{[]int{0, 0, 0, 0, 0}, [][]byte{{1, 2}, {1, 2}, {1, 2}, {1, 2}, {1, 2}}},
		{[]int{}, nil},
		{nil, nil},
		{[]int{3}, nil},
		{[]int{-1}, nil},
		{[]int{0, 1, 2, 3}, nil},
		{[]int{-1, 0, 1}, nil},
		{[]int{0, 3, 1}, nil},
		{[]int{0, math.MaxInt, 1}, nil},
		{[]int{0, math.MinInt}, nil},
	} {
		if x := matrix.Rows(m, c.at); !same(x, c.want) {
			t.Errorf("Rows(%v) = %x, want %x", c.at, x, c.want)
		}
	}
	for _, none := range [][][]byte{nil, {}} {
		if x := matrix.Rows(none, []int{0}); len(x) != 0 {
			t.Errorf("Rows of none = %x", x)
		}
		if x := matrix.Rows(none, nil); len(x) != 0 {
			t.Errorf("no rows of none = %x", x)
		}
	}
}

func TestEveryRow(t *testing.T) {
	m := chance(rand.New(rand.NewSource(5)), 200, 3)
	for i := range m {
		if x := matrix.Rows(m, []int{i}); !same(x, m[i:i+1]) {
			t.Errorf("Rows(%d) = %x", i, x)
		}
	}
}

// P4.2

// looked tells whether Invert answers of m as it shall: if there is a contrary,
// there is but one.
func looked(m [][]byte, has bool) error {
	x, ok := matrix.Invert(m)
	if ok != has || !ok && len(x) != 0 {
		return fmt.Errorf("Invert(%x) = %x, %v, want %v", m, x, ok, has)
	}
	if !ok {
		return nil
	}
	one := identity(len(m))
	if !matrix.Right(x) || len(x) != len(m) || len(x[0]) != len(m) {
		return fmt.Errorf("Invert(%x) = %x, another shape", m, x)
	}
	if !same(multiply(x, m), one) || !same(multiply(m, x), one) {
		return fmt.Errorf("Invert(%x) = %x, which isn't its contrary", m, x)
	}
	return nil
}

func TestInvert(t *testing.T) {
	for _, c := range []struct {
		m, want [][]byte
		ok      bool
	}{
		{[][]byte{{1}}, [][]byte{{1}}, true},
		{[][]byte{{2}}, [][]byte{{0x8e}}, true},
		{[][]byte{{0}}, nil, false},
		{[][]byte{{1, 0}, {0, 1}}, [][]byte{{1, 0}, {0, 1}}, true},
		{[][]byte{{0, 1}, {1, 0}}, [][]byte{{0, 1}, {1, 0}}, true},
		{[][]byte{{0, 2}, {1, 0}}, [][]byte{{0, 1}, {0x8e, 0}}, true},
		{[][]byte{{1, 1}, {0, 1}}, [][]byte{{1, 1}, {0, 1}}, true},
		{[][]byte{{1, 2}, {0, 1}}, [][]byte{{1, 2}, {0, 1}}, true},
		{[][]byte{{0, 1, 0}, {0, 0, 1}, {1, 0, 0}}, [][]byte{{0, 0, 1}, {1, 0, 0}, {0, 1, 0}}, true},
		{[][]byte{{0, 0}, {0, 0}}, nil, false},
		{[][]byte{{1, 2}, {1, 2}}, nil, false},
		{[][]byte{{1, 2}, {2, 4}}, nil, false},
		{[][]byte{{0, 0}, {1, 1}}, nil, false},
		{[][]byte{{1, 1}, {0, 0}}, nil, false},
		{[][]byte{{0, 1}, {0, 1}}, nil, false},
		{[][]byte{{1, 0}, {1, 0}}, nil, false},
		{[][]byte{{1, 0, 0}, {0, 1, 0}, {1, 1, 0}}, nil, false},
		{[][]byte{{1, 2, 3}, {4, 5, 6}, {5, 7, 5}}, nil, false},
	} {
		if x, ok := matrix.Invert(c.m); ok != c.ok || !same(x, c.want) {
			t.Errorf("Invert(%x) = %x, %v, want %x, %v", c.m, x, ok, c.want, c.ok)
		}
	}
}

func TestInvertOfEveryElement(t *testing.T) {
	for e := range 256 {
		if err := looked([][]byte{{byte(e)}}, e != 0); err != nil {
			t.Error(err)
		}
	}
}

func TestInvertOfAllSmallOnes(t *testing.T) {
	for _, c := range []struct {
		n        int
		elements []byte
	}{
		{2, []byte{0, 1, 2, 3, 0x1d, 0x80, 0x8e, 0xff}},
		{3, []byte{0, 1, 2}},
		{4, []byte{0, 1}},
	} {
		every(c.n, c.elements, func(m [][]byte) {
			if err := looked(m, determinant(m) != 0); err != nil {
				t.Error(err)
			}
		})
	}
}

func TestInvertByChance(t *testing.T) {
	r := rand.New(rand.NewSource(6))
	for i := range 600 {
		m := chance(r, 1+i%6, 1+i%6)
		if err := looked(m, determinant(m) != 0); err != nil {
			t.Error(err)
		}
	}
}

// Where rows have nothing at their own place, others must come there.
func TestInvertOfAllOrders(t *testing.T) {
	r := rand.New(rand.NewSource(7))
	for n := 1; n <= 6; n++ {
		orders(n, func(at []int) {
			m := make([][]byte, n)
			for i, j := range at {
				m[i] = make([]byte, n)
				m[i][j] = byte(1 + r.Intn(255))
			}
			if err := looked(m, true); err != nil {
				t.Error(err)
			}
		})
	}
}

// made is a matrix that has a contrary: of 1 in each row's own place, with
// anything behind it, times such a one with anything ahead of it.
func made(r *rand.Rand, n int) [][]byte {
	up, low := chance(r, n, n), chance(r, n, n)
	for i := range n {
		clear(up[i][:i])
		clear(low[i][i+1:])
		up[i][i], low[i][i] = 1, 1
	}
	return multiply(up, low)
}

func TestInvertOfGreatOnes(t *testing.T) {
	r := rand.New(rand.NewSource(8))
	for _, m := range [][][]byte{made(r, 7), made(r, 33), made(r, 64), made(r, 127), identity(255), identity(300)} {
		if err := looked(m, true); err != nil {
			t.Error(err)
		}
	}
}

// One row that is a sum of others takes the contrary away, wherever it stands.
func TestInvertOfRowsThatHangOnOthers(t *testing.T) {
	r := rand.New(rand.NewSource(15))
	for _, n := range []int{3, 4, 9, 40} {
		m := made(r, n)
		for i := range m {
			hangs, others := copied(m), chance(r, 1, n)
			others[0][i] = 0
			hangs[i] = multiply(others, m)[0]
			if err := looked(hangs, false); err != nil {
				t.Error(err)
			}
		}
	}
}

func TestInvertOfOthersThanSquares(t *testing.T) {
	for high := 1; high <= 6; high++ {
		for wide := 1; wide <= 6; wide++ {
			m := make([][]byte, high)
			for i := range m {
				m[i] = make([]byte, wide)
				if i < wide {
					m[i][i] = 1
				}
			}
			if err := looked(m, high == wide); err != nil {
				t.Error(err)
			}
		}
	}
}

// P4.3

func TestCoding(t *testing.T) {
	for _, c := range []struct {
		k, n int
		want [][]byte
	}{
		{1, 1, [][]byte{{1}}},
		{1, 3, [][]byte{{1}, {contrary(1)}, {contrary(2)}}},
		{2, 2, [][]byte{{1, 0}, {0, 1}}},
		{2, 3, [][]byte{{1, 0}, {0, 1}, {contrary(2), contrary(3)}}},
		{2, 3, [][]byte{{1, 0}, {0, 1}, {0x8e, 0xf4}}},
		{3, 4, [][]byte{{1, 0, 0}, {0, 1, 0}, {0, 0, 1}, {0xf4, 0x8e, 1}}},
	} {
		if x := matrix.Coding(c.k, c.n); !same(x, c.want) {
			t.Errorf("Coding(%d, %d) = %x, want %x", c.k, c.n, x, c.want)
		}
	}
}

// coding is the coding by the chapter's words.
func coding(k, n int) [][]byte {
	m := make([][]byte, n)
	for i := range m {
		for j := range k {
			switch {
			case i == j:
				m[i] = append(m[i], 1)
			case i < k:
				m[i] = append(m[i], 0)
			default:
				m[i] = append(m[i], contrary(byte(i)^byte(j)))
			}
		}
	}
	return m
}

func TestAllCodings(t *testing.T) {
	for _, n := range []int{1, 2, 3, 4, 5, 6, 7, 8, 16, 17, 31, 64, 127, 128, 129, 199, 200} {
		step := 1 + n/16
		for k := 1; k <= n; k += step {
			if !same(matrix.Coding(k, n), coding(k, n)) {
				t.Errorf("Coding(%d, %d) is another one", k, n)
			}
		}
		if !same(matrix.Coding(n, n), identity(n)) {
			t.Errorf("Coding(%d, %d) isn't One", n, n)
		}
	}
}

func TestAnyRowsOfCodingHaveAContrary(t *testing.T) {
	for n := 1; n <= 9; n++ {
		for k := 1; k <= n; k++ {
			m := matrix.Coding(k, n)
			choices(k, n, func(at []int) {
				if err := looked(matrix.Rows(m, at), true); err != nil {
					t.Error(k, n, at, err)
				}
			})
		}
	}
}

func TestRowsOfCodingInAnyOrder(t *testing.T) {
	m := matrix.Coding(4, 9)
	for _, chosen := range [][]int{{0, 1, 2, 3}, {0, 3, 5, 8}, {5, 6, 7, 8}, {1, 2, 3, 4}} {
		orders(4, func(at []int) {
			mixed := make([]int, 4)
			for i, j := range at {
				mixed[i] = chosen[j]
			}
			if err := looked(matrix.Rows(m, mixed), true); err != nil {
				t.Error(mixed, err)
			}
		})
	}
}

func TestRowsOfGreatCodingsHaveAContrary(t *testing.T) {
	r := rand.New(rand.NewSource(9))
	for _, c := range [][2]int{{1, 200}, {2, 200}, {13, 200}, {50, 200}, {100, 200}, {60, 61}, {64, 128}} {
		k, n := c[0], c[1]
		m := matrix.Coding(k, n)
		last := make([]int, k)
		for i := range last {
			last[i] = n - k + i
		}
		for _, at := range [][]int{last, r.Perm(n)[:k], r.Perm(n)[:k]} {
			if err := looked(matrix.Rows(m, at), true); err != nil {
				t.Error(k, n, at, err)
			}
		}
	}
}

// What the code stands on: the pieces come back from any k of the rows' sums.
func TestPiecesComeBack(t *testing.T) {
	pieces := chance(rand.New(rand.NewSource(10)), 3, 20)
	m := matrix.Coding(3, 7)
	shards := matrix.Mul(m, pieces)
	if !same(shards[:3], pieces) {
		t.Errorf("the first shards are %x, want %x", shards[:3], pieces)
	}
	choices(3, 7, func(at []int) {
		x, ok := matrix.Invert(matrix.Rows(m, at))
		if !ok || !same(matrix.Mul(x, matrix.Rows(shards, at)), pieces) {
			t.Errorf("of %v the pieces don't come back", at)
		}
	})
}

// P4.4

const spare = 5

// roomy is a copy of m with room behind its rows that tells of writes into it.
func roomy(m [][]byte) [][]byte {
	l := make([][]byte, len(m), len(m)+spare)
	for i, row := range m {
		b := bytes.Repeat([]byte{0xa5}, len(row)+spare)
		copy(b, row)
		l[i] = b[:len(row)]
	}
	return l
}

// untouched tells whether m, made by roomy of was, is as it was made.
func untouched(m, was [][]byte) bool {
	for i, row := range m[:cap(m)] {
		if i >= len(m) && row != nil {
			return false
		}
		if i < len(m) && !bytes.Equal(row[len(row):cap(row)], bytes.Repeat([]byte{0xa5}, spare)) {
			return false
		}
	}
	return same(m, was)
}

// spoil writes all over a list and the room behind its rows.
func spoil(m [][]byte) {
	for _, row := range m {
		row = row[:cap(row)]
		for i := range row {
			row[i] ^= 0x5a
		}
	}
	clear(m[:cap(m)])
}

// apart spoils the rows one by one, and looks that the others stay.
func apart(t *testing.T, name string, m [][]byte) {
	t.Helper()
	for i := range m {
		was := copied(m)
		spoil([][]byte{m[i]})
		for j := range m {
			if j != i && !bytes.Equal(m[j], was[j]) {
				t.Errorf("%s: rows %d and %d share memory", name, i, j)
			}
		}
	}
}

func TestMemory(t *testing.T) {
	a, b := made(rand.New(rand.NewSource(11)), 3), chance(rand.New(rand.NewSource(12)), 3, 4)
	x, y, at := roomy(a), roomy(b), []int{2, 0, 2, 1}
	for _, c := range []struct {
		name string
		call func() [][]byte
	}{
		{"Mul", func() [][]byte { return matrix.Mul(x, y) }},
		{"Mul by One", func() [][]byte { return matrix.Mul(matrix.One(3), y) }},
		{"Mul of one with itself", func() [][]byte { return matrix.Mul(x, x) }},
		{"One", func() [][]byte { return matrix.One(4) }},
		{"One of one", func() [][]byte { return matrix.One(1) }},
		{"Rows", func() [][]byte { return matrix.Rows(x, at) }},
		{"Invert", func() [][]byte { m, _ := matrix.Invert(x); return m }},
		{"Invert of One", func() [][]byte { m, _ := matrix.Invert(identity(3)); return m }},
		{"Invert of none", func() [][]byte { m, _ := matrix.Invert(x[:2]); return m }},
		{"Right", func() [][]byte { matrix.Right(x); return nil }},
		{"Coding", func() [][]byte { return matrix.Coding(3, 7) }},
		{"Coding of as many", func() [][]byte { return matrix.Coding(3, 3) }},
	} {
		first, second := c.call(), c.call()
		want := copied(first)
		apart(t, c.name, first)
		spoil(first)
		if !same(second, want) {
			t.Errorf("%s: two answers share memory", c.name)
		}
		if third := c.call(); !same(third, want) {
			t.Errorf("%s: an answer is kept", c.name)
		}
		if !untouched(x, a) || !untouched(y, b) || !slices.Equal(at, []int{2, 0, 2, 1}) {
			t.Fatalf("%s: what was handed in is changed", c.name)
		}
	}
}

// Nothing that was handed in is kept: a change of it doesn't change the answer.
func TestAnswersStay(t *testing.T) {
	a, b := made(rand.New(rand.NewSource(13)), 3), chance(rand.New(rand.NewSource(14)), 3, 4)
	x, y, z, u := roomy(a), roomy(b), roomy(a), roomy(a)
	product, rows := matrix.Mul(x, y), matrix.Rows(z, []int{0, 2, 0})
	contrary, _ := matrix.Invert(u)
	want, wantRows, wantContrary := copied(product), copied(rows), copied(contrary)
	for _, m := range [][][]byte{x, y, z, u} {
		spoil(m)
	}
	if !same(product, want) || !same(rows, wantRows) || !same(contrary, wantContrary) {
		t.Error("an answer shares memory with what was handed in")
	}
}

// One matrix in both places, and one row in all places, are matrices too.
func TestSharedRows(t *testing.T) {
	row := []byte{3, 5}
	m := [][]byte{row, row}
	if _, ok := matrix.Invert(m); ok || !same(m, [][]byte{{3, 5}, {3, 5}}) {
		t.Errorf("Invert of one row in two places: %v, %x", ok, m)
	}
	if x := matrix.Mul(m, m); !same(x, multiply(m, m)) || !same(m, [][]byte{{3, 5}, {3, 5}}) {
		t.Errorf("Mul of one row in two places: %x, %x", x, m)
	}
}

// P1 of the whole, beyond what the chapter gives a meaning to: each call ends.

func TestAllCallsEnd(t *testing.T) {
	wrong := [][][]byte{nil, {}, {{}}, {nil}, {{}, {}}, {{1}, {1, 2}}, {{1, 2}, {1}}, {{1, 2}, nil}, {nil, {1}}}
	for _, m := range wrong {
		if x, ok := matrix.Invert(m); ok || len(x) != 0 {
			t.Errorf("Invert(%x) = %x, %v", m, x, ok)
		}
		for _, o := range append(wrong, identity(2), identity(1)) {
			if x, y := matrix.Mul(m, o), matrix.Mul(o, m); len(x) != 0 || len(y) != 0 {
				t.Errorf("Mul of %x and %x = %x, %x", m, o, x, y)
			}
		}
	}
	for _, n := range []int{0, -1, 256, 300, math.MaxInt, math.MinInt} {
		if x := matrix.One(n); len(x) != 0 {
			t.Errorf("One(%d) has %d rows", n, len(x))
		}
	}
	for _, c := range [][2]int{
		{0, 0}, {0, 1}, {-1, 1}, {2, 1}, {1, 0}, {1, -1}, {1, 201}, {201, 201}, {200, 199},
		{1, math.MaxInt}, {math.MaxInt, math.MaxInt}, {math.MinInt, 5}, {math.MinInt, math.MinInt},
	} {
		if x := matrix.Coding(c[0], c[1]); len(x) != 0 {
			t.Errorf("Coding(%d, %d) has %d rows", c[0], c[1], len(x))
		}
	}
}
