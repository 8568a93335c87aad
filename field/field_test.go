package field_test

import (
	"bytes"
	"math"
	"testing"

	"shardlog/field"
)

// product is that of the document's words, apart from package field: the
// polynomials are multiplied whole, and then divided by 11d.
func product(a, b byte) byte {
	p := 0
	for i := range 8 {
		if b>>i&1 == 1 {
			p ^= int(a) << i
		}
	}
	for i := 14; i >= 8; i-- {
		if p>>i&1 == 1 {
			p ^= 0x11d << (i - 8)
		}
	}
	return byte(p)
}

// power is the product of n times a, by squares, so that it ends with a great n.
func power(a byte, n int) byte {
	p := byte(1)
	for ; n > 0; n, a = n>>1, product(a, a) {
		if n&1 == 1 {
			p = product(p, a)
		}
	}
	return p
}

// inverse is looked for among all elements: the only one, or 0 of 0.
func inverse(t *testing.T, a byte) byte {
	t.Helper()
	var l []byte
	for x := range 256 {
		if product(a, byte(x)) == 1 {
			l = append(l, byte(x))
		}
	}
	if a == 0 && len(l) == 0 {
		return 0
	}
	if len(l) != 1 {
		t.Fatalf("%02x has the contraries %x", a, l)
	}
	return l[0]
}

// all is each element once.
func all() []byte {
	b := make([]byte, 256)
	for i := range b {
		b[i] = byte(i)
	}
	return b
}

// P3.1

func TestMul(t *testing.T) {
	f := field.New()
	for _, c := range []struct{ a, b, want byte }{
		{0, 0, 0}, {0, 1, 0}, {1, 0, 0}, {0, 0xff, 0}, {0xff, 0, 0},
		{1, 1, 1}, {1, 0xff, 0xff}, {0xff, 1, 0xff},
		{2, 3, 6}, {3, 3, 5}, {3, 7, 9}, {0x0f, 0x0f, 0x55},
		{0x80, 2, 0x1d}, {2, 0x80, 0x1d}, {0x40, 2, 0x80}, {0x40, 4, 0x1d}, {0x10, 0x10, 0x1d},
		{0x80, 0x80, 0x13}, {0x8e, 2, 1}, {0xff, 0xff, 0xe2},
	} {
		if x := f.Mul(c.a, c.b); x != c.want {
			t.Errorf("Mul(%02x, %02x) = %02x, want %02x", c.a, c.b, x, c.want)
		}
	}
}

func TestAllProducts(t *testing.T) {
	f := field.New()
	for _, a := range all() {
		for _, b := range all() {
			if x, want := f.Mul(a, b), product(a, b); x != want {
				t.Errorf("Mul(%02x, %02x) = %02x, want %02x", a, b, x, want)
			}
		}
	}
}

func TestInv(t *testing.T) {
	f := field.New()
	for a, want := range map[byte]byte{0: 0, 1: 1, 2: 0x8e, 0x8e: 2, 3: 0xf4, 0xff: 0xfd} {
		if x := f.Inv(a); x != want {
			t.Errorf("Inv(%02x) = %02x, want %02x", a, x, want)
		}
	}
	for _, a := range all() {
		if x, want := f.Inv(a), inverse(t, a); x != want {
			t.Errorf("Inv(%02x) = %02x, want %02x", a, x, want)
		}
	}
}

func TestDiv(t *testing.T) {
	f := field.New()
	for _, c := range []struct {
		a, b, want byte
		ok         bool
	}{
		{0, 0, 0, false}, {1, 0, 0, false}, {0xff, 0, 0, false},
		{0, 1, 0, true}, {0, 0xff, 0, true}, {0xff, 1, 0xff, true}, {0xff, 0xff, 1, true},
		{9, 7, 3, true}, {9, 3, 7, true}, {1, 2, 0x8e, true}, {0x1d, 0x80, 2, true},
	} {
		if x, ok := f.Div(c.a, c.b); x != c.want || ok != c.ok {
			t.Errorf("Div(%02x, %02x) = %02x, %v, want %02x, %v", c.a, c.b, x, ok, c.want, c.ok)
		}
	}
}

func TestAllQuotients(t *testing.T) {
	f := field.New()
	for _, b := range all() {
		contrary := inverse(t, b)
		for _, a := range all() {
			want := product(a, contrary)
			if x, ok := f.Div(a, b); x != want || ok != (b != 0) {
				t.Errorf("Div(%02x, %02x) = %02x, %v, want %02x", a, b, x, ok, want)
			}
		}
	}
}

func TestPow(t *testing.T) {
	f := field.New()
	for _, c := range []struct {
		a    byte
		n    int
		want byte
	}{
		{0, 0, 1}, {1, 0, 1}, {2, 0, 1}, {0xff, 0, 1},
		{0, 1, 0}, {0, 255, 0}, {0, 256, 0}, {0, 510, 0}, {0, math.MaxInt, 0},
		{1, 1, 1}, {1, 254, 1}, {1, math.MaxInt, 1},
		{2, 1, 2}, {2, 7, 0x80}, {2, 8, 0x1d}, {2, 254, 0x8e}, {2, 255, 1}, {2, 256, 2},
		{3, 2, 5}, {3, 254, 0xf4}, {3, 255, 1}, {0xff, 1, 0xff}, {0xff, 2, 0xe2},
	} {
		if x := f.Pow(c.a, c.n); x != c.want {
			t.Errorf("Pow(%02x, %d) = %02x, want %02x", c.a, c.n, x, c.want)
		}
	}
}

// Each n up to where all powers came again some times, one product after another.
func TestPowStepByStep(t *testing.T) {
	f := field.New()
	for _, a := range all() {
		want := byte(1)
		for n := range 4 * 256 {
			if x := f.Pow(a, n); x != want {
				t.Fatalf("Pow(%02x, %d) = %02x, want %02x", a, n, x, want)
			}
			want = product(want, a)
		}
	}
}

func TestPowOfGreatNumbers(t *testing.T) {
	f := field.New()
	for _, a := range all() {
		for _, n := range []int{
			1<<31 - 1, 1 << 31, 1<<32 - 1, 1 << 32, 1 << 55, 1<<56 + 1, 1 << 62, 1<<62 + 254,
			math.MaxInt / 255 * 255, math.MaxInt / 254, math.MaxInt - 1, math.MaxInt,
		} {
			if x, want := f.Pow(a, n), power(a, n); x != want {
				t.Errorf("Pow(%02x, %d) = %02x, want %02x", a, n, x, want)
			}
		}
	}
}

// The document speaks of n from 0 on; of others a call ends, too.
func TestPowOfNumbersBelow0(t *testing.T) {
	f := field.New()
	for _, a := range all() {
		for _, n := range []int{-1, -2, -254, -255, -256, -1 << 31, math.MinInt + 1, math.MinInt} {
			if x := f.Pow(a, n); x != 0 {
				t.Errorf("Pow(%02x, %d) = %02x", a, n, x)
			}
		}
	}
}

// P3.2

func TestRow(t *testing.T) {
	f := field.New()
	for _, c := range []struct {
		c       byte
		b, want []byte
	}{
		{0, nil, nil},
		{2, nil, nil},
		{2, []byte{}, nil},
		{0, []byte{0, 1, 0xff}, []byte{0, 0, 0}},
		{1, []byte{0, 1, 0xff}, []byte{0, 1, 0xff}},
		{2, []byte{0}, []byte{0}},
		{2, []byte{0, 1, 0x80}, []byte{0, 2, 0x1d}},
		{2, []byte{0x80, 1, 0}, []byte{0x1d, 2, 0}},
		{3, []byte{3, 7, 3, 0}, []byte{5, 9, 5, 0}},
	} {
		if x := f.Row(c.c, c.b); !bytes.Equal(x, c.want) {
			t.Errorf("Row(%02x, %x) = %x, want %x", c.c, c.b, x, c.want)
		}
	}
}

// All elements in a row, and rows of other lengths, up to a disk's.
func TestAllRows(t *testing.T) {
	f := field.New()
	const times = 1 << 16 / 256
	long := bytes.Repeat(all(), times)
	for _, c := range all() {
		want := all()
		for i, e := range want {
			want[i] = product(c, e)
		}
		want = bytes.Repeat(want, times)
		for _, n := range []int{0, 1, 2, 255, 256, 257, len(long) - 1, len(long)} {
			if x := f.Row(c, long[:n]); !bytes.Equal(x, want[:n]) {
				t.Errorf("Row(%02x) of %d bytes is another one", c, n)
			}
		}
	}
}

// P3.3

func TestProductsAreAField(t *testing.T) {
	f := field.New()
	elements := all()
	for _, a := range elements {
		if f.Mul(a, 1) != a || f.Mul(1, a) != a || f.Mul(a, 0) != 0 || f.Mul(0, a) != 0 {
			t.Errorf("%02x with 1 or 0", a)
		}
		for _, b := range elements {
			ab := f.Mul(a, b)
			if ab != f.Mul(b, a) {
				t.Fatalf("%02x and %02x: the order matters", a, b)
			}
			if ab == 0 && a != 0 && b != 0 {
				t.Fatalf("%02x and %02x: the product is 0", a, b)
			}
			for _, c := range elements {
				if f.Mul(ab, c) != f.Mul(a, f.Mul(b, c)) {
					t.Fatalf("%02x, %02x and %02x: which are taken first matters", a, b, c)
				}
				if f.Mul(a, b^c) != ab^f.Mul(a, c) {
					t.Fatalf("%02x times the sum of %02x and %02x isn't the products' sum", a, b, c)
				}
			}
		}
	}
}

func TestQuotientsUndoProducts(t *testing.T) {
	f := field.New()
	for _, b := range all()[1:] {
		if f.Mul(b, f.Inv(b)) != 1 || f.Mul(f.Inv(b), b) != 1 || f.Inv(f.Inv(b)) != b {
			t.Errorf("%02x and its contrary %02x", b, f.Inv(b))
		}
		for _, a := range all() {
			if x, ok := f.Div(f.Mul(a, b), b); x != a || !ok {
				t.Errorf("Div(%02x times %02x, %02x) = %02x, %v", a, b, b, x, ok)
			}
			if x, ok := f.Div(a, b); f.Mul(x, b) != a || !ok {
				t.Errorf("Div(%02x, %02x) = %02x, %v, and back %02x", a, b, x, ok, f.Mul(x, b))
			}
		}
	}
}

func TestPowersAdd(t *testing.T) {
	f := field.New()
	for _, a := range all() {
		for m := range 40 {
			for n := range 260 {
				if f.Pow(a, m+n) != f.Mul(f.Pow(a, m), f.Pow(a, n)) {
					t.Fatalf("%02x to the %d and %d", a, m, n)
				}
			}
		}
		if a != 0 && f.Pow(a, 254) != f.Inv(a) {
			t.Errorf("%02x to the 254 isn't its contrary", a)
		}
	}
}

// A row of sums is the sum of rows, and a row of a row that of the product:
// what shards are made and taken apart by.
func TestRowsAddAndFollow(t *testing.T) {
	f := field.New()
	a, b := all(), f.Row(7, all())
	sum := make([]byte, len(a))
	for i := range sum {
		sum[i] = a[i] ^ b[i]
	}
	for _, c := range all() {
		ca, cb, csum := f.Row(c, a), f.Row(c, b), f.Row(c, sum)
		for i := range csum {
			if csum[i] != ca[i]^cb[i] {
				t.Fatalf("Row(%02x) of a sum isn't the rows' sum at %d", c, i)
			}
		}
		for _, d := range all() {
			if !bytes.Equal(f.Row(d, ca), f.Row(f.Mul(d, c), a)) {
				t.Fatalf("Row(%02x) of Row(%02x) isn't that of their product", d, c)
			}
		}
		if c != 0 && !bytes.Equal(f.Row(f.Inv(c), ca), a) {
			t.Errorf("Row of %02x and of its contrary isn't what was there", c)
		}
	}
}

// P3.4

func TestRowLeavesWhatIsHandedIn(t *testing.T) {
	f := field.New()
	whole := []byte{0, 1, 0x80, 0xff, 41, 42, 43, 44} // with spare memory behind the row
	want := bytes.Clone(whole)
	for _, c := range all() {
		row := f.Row(c, whole[:4])
		if !bytes.Equal(whole, want) {
			t.Fatalf("Row(%02x) changed %x to %x", c, want, whole)
		}
		for i := range row[:cap(row)] {
			row[:cap(row)][i] = 99
		}
		row = append(row, 98, 97)
		if !bytes.Equal(whole, want) {
			t.Fatalf("Row(%02x): %x shares its memory", c, row)
		}
	}
}

func TestRowsAreNewMemory(t *testing.T) {
	f := field.New()
	for _, c := range all() {
		b := []byte{0, 1, 0x80, 0xff}
		first := f.Row(c, b)
		want := bytes.Clone(first)
		for i := range b {
			b[i] = 99
		}
		if !bytes.Equal(first, want) {
			t.Fatalf("Row(%02x): %x became %x with what was handed in", c, want, first)
		}
		second := f.Row(c, b)
		if !bytes.Equal(first, want) {
			t.Fatalf("Row(%02x): %x became %x with a second row, %x", c, want, first, second)
		}
		third := f.Row(c, b)
		third[0] ^= 1
		if bytes.Equal(second, third) {
			t.Fatalf("Row(%02x): two rows of one share their memory", c)
		}
	}
}

func TestFieldsAreNewMemory(t *testing.T) {
	first, second := field.New(), field.New()
	*first = field.Field{}
	third := field.New()
	for _, f := range []*field.Field{second, third} {
		if f.Mul(0x80, 2) != 0x1d || f.Inv(2) != 0x8e {
			t.Error("a field changed with another one")
		}
	}
}

func TestFieldStays(t *testing.T) {
	f := field.New()
	for _, a := range all() {
		for _, b := range all() {
			f.Mul(a, b)
			f.Div(a, b)
			f.Pow(a, int(b))
		}
		f.Inv(a)
		f.Pow(a, -1)
		row := f.Row(a, all())
		clear(row)
	}
	if *f != *field.New() {
		t.Error("calls changed the field")
	}
}
