package code_test

import (
	"bytes"
	"encoding/binary"
	"encoding/hex"
	"math"
	"math/rand"
	"slices"
	"strings"
	"testing"

	"shardlog/api"
	"shardlog/code"
	"shardlog/field"
	"shardlog/matrix"
)

// shapes are all that are right.
func shapes() []api.Shape {
	var l []api.Shape
	for k := 1; k <= 7; k++ {
		for f := 0; k+2*f <= 7; f++ {
			l = append(l, api.Shape{K: k, F: f})
		}
	}
	return l
}

// wrongShapes are beside the right ones, and such whose N wraps round to a right
// one.
func wrongShapes() []api.Shape {
	return []api.Shape{
		{}, {K: 0, F: 1}, {K: 0, F: 3}, {K: -1}, {K: -1, F: 4}, {K: 8}, {K: 9, F: -1},
		{K: 1, F: -1}, {K: 7, F: -1}, {K: 3, F: -1}, {K: 1, F: 4}, {K: 2, F: 3}, {K: 6, F: 1}, {K: 7, F: 7},
		{K: 1, F: 1 << 62}, {K: 3, F: math.MinInt}, {K: 3, F: math.MinInt + 1}, {K: 3, F: math.MaxInt},
		{K: math.MaxInt}, {K: math.MaxInt, F: 1}, {K: math.MaxInt - 1, F: 1}, {K: math.MaxInt, F: 7}, {K: math.MinInt},
		{K: math.MaxInt, F: math.MaxInt}, {K: 1 + 1<<32}, {K: 1, F: 1 << 32},
	}
}

// values are ordinary ones, and those at the edges: none and the longest, each
// remainder of the filling, and such as look like a filling or a number.
func values() []string {
	l := []string{
		"\x00", "\x00\x00\x00\x00\x00\x00\x00", "\xff\xfe\x80", "gr\u00fc\u00df", "\x00\x00\x00\x02ab",
		strings.Repeat("\xff", 512), strings.Repeat("\x00", 512),
	}
	long := strings.Repeat("abcdefghijklmnopqrstuvwxyz", 20)
	for n := range 20 {
		l = append(l, long[:n])
	}
	for n := 500; n <= 512; n++ {
		l = append(l, long[:n])
	}
	return l
}

// filled is chapter 1's text with as few zero bytes as make it a multiple of k.
func filled(k int, v string) []byte {
	b := binary.BigEndian.AppendUint32(nil, uint32(len(v)))
	b = append(b, v...)
	return append(b, make([]byte, (k-len(b)%k)%k)...)
}

// coded is what the chapter's words make of any bytes whose length is a multiple
// of K, whether they are a value's or not: byte by byte.
func coded(s api.Shape, b []byte) [][]byte {
	n, size := s.K+2*s.F, len(b)/s.K
	f, rows := field.New(), matrix.Coding(s.K, n)
	l := make([][]byte, n)
	for i := range l {
		for at := range size {
			e := byte(0)
			for j := range s.K {
				e ^= f.Mul(rows[i][j], b[j*size+at])
			}
			l[i] = append(l[i], e)
		}
	}
	return l
}

// shardsOf is coded's answer for a value.
func shardsOf(s api.Shape, v string) [][]byte { return coded(s, filled(s.K, v)) }

func same(a, b [][]byte) bool { return slices.EqualFunc(a, b, bytes.Equal) }

func copied(l [][]byte) [][]byte {
	c := make([][]byte, len(l))
	for i, shard := range l {
		c[i] = slices.Clone(shard)
	}
	return c
}

// some are the shards whose bits are set in which; the others aren't there.
func some(l [][]byte, which int) [][]byte {
	c := copied(l)
	for i := range c {
		if which>>i&1 == 0 {
			c[i] = nil
		}
	}
	return c
}

func count(which int) int {
	n := 0
	for ; which > 0; which &= which - 1 {
		n++
	}
	return n
}

// expect holds Decode's answer, and Rebuild's at each place, against what is
// due: the value v, or with an error nothing.
func expect(t *testing.T, s api.Shape, l [][]byte, v string, e api.Errno) {
	t.Helper()
	if got, err := code.Decode(s, l); got != v || err != e {
		t.Fatalf("%v: Decode(%x) = %q, %d, want %q, %d", s, l, got, err, v, e)
	}
	var want [][]byte
	if e == api.OK {
		want = shardsOf(s, v)
	} else {
		want = make([][]byte, code.N(s))
	}
	for i, shard := range want {
		if got, err := code.Rebuild(s, l, i); !bytes.Equal(got, shard) || err != e {
			t.Fatalf("%v: Rebuild(%x, %d) = %x, %d, want %x, %d", s, l, i, got, err, shard, e)
		}
	}
}

// P5.1

func TestRightAndN(t *testing.T) {
	right := shapes()
	if len(right) != 16 {
		t.Fatal(right)
	}
	for k := -10; k <= 20; k++ {
		for f := -20; f <= 20; f++ {
			s := api.Shape{K: k, F: f}
			want := slices.Contains(right, s)
			n := 0
			if want {
				n = k + 2*f
			}
			if code.Right(s) != want || code.N(s) != n {
				t.Errorf("%v: %v, %d", s, code.Right(s), code.N(s))
			}
		}
	}
	for _, s := range wrongShapes() {
		if code.Right(s) || code.N(s) != 0 {
			t.Errorf("%v: %v, %d", s, code.Right(s), code.N(s))
		}
	}
}

// Shards that were made apart from the program.
func TestEncodeByTheLetter(t *testing.T) {
	for _, c := range []struct {
		s    api.Shape
		v    string
		want string
	}{
		{api.Shape{K: 1}, "x", "0000000178"},
		{api.Shape{K: 1, F: 3}, "x", "0000000178 0000000178 0000008e3c 000000f428 000000471e 000000a718 0000007a14"},
		{api.Shape{K: 2, F: 1}, "ab", "000000 026162 f5d4d5 01be31"},
		{api.Shape{K: 3, F: 1}, "ab", "0000 0002 6162 6163 6ab7"},
		{api.Shape{K: 3, F: 2}, "abcdefghijk", "0000000b61 6263646566 6768696a6b 56d75b248c d3f8d03228 e8176554ce c6b6f0fa7d"},
		{api.Shape{K: 4, F: 1}, "\x00", "0000 0001 0000 0000 00a7 0047"},
		{api.Shape{K: 5, F: 1}, "", "00 00 00 00 00 00 00"},
		{api.Shape{K: 7}, "\xff\x00", "00 00 00 02 ff 00 00"},
	} {
		var want [][]byte
		for _, x := range strings.Fields(c.want) {
			b, err := hex.DecodeString(x)
			if err != nil {
				t.Fatal(err)
			}
			want = append(want, b)
		}
		if l, e := code.Encode(c.s, c.v); !same(l, want) || e != api.OK {
			t.Errorf("Encode(%v, %q) = %x, %d, want %x", c.s, c.v, l, e, want)
		}
		expect(t, c.s, want, c.v, api.OK)
	}
}

func TestEncode(t *testing.T) {
	for _, s := range shapes() {
		for _, v := range values() {
			l, e := code.Encode(s, v)
			if !same(l, shardsOf(s, v)) || e != api.OK {
				t.Fatalf("Encode(%v, %q) = %x, %d", s, v, l, e)
			}
			if len(l) != s.K+2*s.F {
				t.Fatalf("%v has %d shards", s, len(l))
			}
			size := (4 + len(v) + s.K - 1) / s.K
			for i, shard := range l {
				if len(shard) != size {
					t.Fatalf("%v: shard %d of %q has %d bytes, not %d", s, i, v, len(shard), size)
				}
			}
		}
	}
}

// Each byte at each place of a short value.
func TestEncodeEveryByte(t *testing.T) {
	for _, s := range shapes() {
		for at := range 6 {
			for c := range 256 {
				b := []byte("abcdef")
				b[at] = byte(c)
				l, e := code.Encode(s, string(b))
				if !same(l, shardsOf(s, string(b))) || e != api.OK {
					t.Fatalf("Encode(%v, %q) = %x, %d", s, b, l, e)
				}
			}
		}
	}
}

// With K 1 each shard alone is enough; shards 0 and 1 are the text itself, the
// others its products with their row's element.
func TestK1(t *testing.T) {
	for f := range 4 {
		s := api.Shape{K: 1, F: f}
		for _, v := range values() {
			l, e := code.Encode(s, v)
			if e != api.OK {
				t.Fatal(e)
			}
			for i, shard := range l {
				if want := field.New().Row(max(1, field.New().Inv(byte(i))), filled(1, v)); !bytes.Equal(shard, want) {
					t.Fatalf("%v: shard %d of %q is %x, want %x", s, i, v, shard, want)
				}
				expect(t, s, some(l, 1<<i), v, api.OK)
			}
		}
	}
}

func TestEncodeErrors(t *testing.T) {
	long := []string{strings.Repeat("a", 513), strings.Repeat("\x00", 514), strings.Repeat("b", 1<<16), strings.Repeat("c", 1<<20)}
	for _, s := range shapes() {
		for _, v := range long {
			if l, e := code.Encode(s, v); len(l) != 0 || e != api.ErrBig {
				t.Errorf("%v: %d bytes: %d shards, %d", s, len(v), len(l), e)
			}
		}
	}
	for _, s := range wrongShapes() {
		for _, v := range append(long, "", "ab", strings.Repeat("a", 512)) {
			if l, e := code.Encode(s, v); len(l) != 0 || e != api.ErrArg {
				t.Errorf("%v: %d bytes: %d shards, %d", s, len(v), len(l), e)
			}
		}
	}
}

// P5.2, and P5.3: from any K of the shards and more.

func TestDecodeAndRebuildOfAllChoices(t *testing.T) {
	for _, s := range shapes() {
		for _, v := range values() {
			l := shardsOf(s, v)
			for which := range 1 << len(l) {
				if count(which) < s.K {
					expect(t, s, some(l, which), "", api.ErrShort)
				} else {
					expect(t, s, some(l, which), v, api.OK)
				}
			}
		}
	}
}

// Empty and nil are one: not at hand.
func TestEmptyIsNotAtHand(t *testing.T) {
	s := api.Shape{K: 2, F: 1}
	l := shardsOf(s, "ab")
	l[0], l[2] = []byte{}, nil
	expect(t, s, l, "ab", api.OK)
	l[1] = make([]byte, 0, 9)
	expect(t, s, l, "", api.ErrShort)
	expect(t, s, make([][]byte, 4), "", api.ErrShort)
	expect(t, s, [][]byte{{}, {}, {}, {}}, "", api.ErrShort)
}

func TestDecodeErrArg(t *testing.T) {
	good := shardsOf(api.Shape{K: 3, F: 2}, "abc")
	for _, s := range wrongShapes() {
		for n := range len(good) + 1 {
			if v, e := code.Decode(s, good[:n]); v != "" || e != api.ErrArg {
				t.Errorf("%v: Decode of %d = %q, %d", s, n, v, e)
			}
			for _, i := range []int{-1, 0, 1, 6, 7, math.MaxInt, math.MinInt} {
				if b, e := code.Rebuild(s, good[:n], i); len(b) != 0 || e != api.ErrArg {
					t.Errorf("%v: Rebuild of %d at %d = %x, %d", s, n, i, b, e)
				}
			}
		}
	}
	for _, s := range shapes() {
		l := shardsOf(s, "abc")
		for n := range 20 {
			if n == len(l) {
				continue
			}
			// Whole or not, and with shards at hand or none: the length comes first.
			expect(t, s, slices.Repeat(l, 20)[:n], "", api.ErrArg)
			expect(t, s, make([][]byte, n), "", api.ErrArg)
		}
		expect(t, s, append(copied(l), nil), "", api.ErrArg)
		expect(t, s, nil, "", api.ErrArg)
	}
}

// A place that isn't there comes ahead of all that Decode says.
func TestRebuildOfNoPlace(t *testing.T) {
	for _, s := range shapes() {
		l := shardsOf(s, "abc")
		spoilt := copied(l)
		spoilt[0][0] ^= 1
		for _, l := range [][][]byte{l, l[:len(l)-1], append(copied(l), l[0]), spoilt, make([][]byte, len(l)), nil} {
			for _, i := range []int{-1, -2, len(l), len(l) + 1, 7, 8, 100, math.MaxInt, math.MinInt} {
				if i >= 0 && i < code.N(s) {
					continue
				}
				if b, e := code.Rebuild(s, l, i); len(b) != 0 || e != api.ErrArg {
					t.Errorf("%v: Rebuild(%x, %d) = %x, %d", s, l, i, b, e)
				}
			}
		}
	}
}

// Too few comes ahead of what they are.
func TestShortAheadOfForm(t *testing.T) {
	expect(t, api.Shape{K: 3, F: 1}, [][]byte{{1}, nil, {1, 2}, nil, nil}, "", api.ErrShort)
	expect(t, api.Shape{K: 3, F: 1}, [][]byte{{1}, nil, {1, 2}, nil, {1}}, "", api.ErrForm)
	expect(t, api.Shape{K: 7}, [][]byte{{1}, {2}, {3}, {4}, {5}, {6}, nil}, "", api.ErrShort)
	expect(t, api.Shape{K: 7}, [][]byte{{1}, {2}, {3}, {4}, {5}, {6}, {7}}, "", api.ErrForm)
}

// One shard is longer or shorter than the others, wherever it stands, with a
// byte that tells nothing too.
func TestUnlikeLengths(t *testing.T) {
	for _, s := range shapes() {
		for _, v := range []string{"", "ab", "abcdefghijk"} {
			l := shardsOf(s, v)
			for which := range 1 << len(l) {
				if count(which) < max(2, s.K) {
					continue
				}
				for i := range l {
					if which>>i&1 == 0 {
						continue
					}
					for _, other := range [][]byte{
						append(slices.Clone(l[i]), 0), append([]byte{0}, l[i]...), append(slices.Clone(l[i]), 7),
						l[i][1:], l[i][:len(l[i])-1], make([]byte, 1000),
					} {
						if len(other) > 0 {
							c := some(l, which)
							c[i] = other
							expect(t, s, c, "", api.ErrForm)
						}
					}
				}
			}
		}
	}
}

// notValues are bytes of which whole lists of shards are made that agree, and
// yet are no value's.
func notValues(k int) [][]byte {
	fill := func(b ...byte) []byte { return append(b, make([]byte, (k-len(b)%k)%k)...) }
	var l [][]byte
	for _, v := range []string{"", "ab", "abcdefghijk"} {
		good := filled(k, v)
		l = append(l, append(slices.Clone(good), make([]byte, k)...), append(slices.Clone(good), make([]byte, 5*k)...))
		for at := 4 + len(v); at < len(good); at++ {
			for _, c := range []byte{1, 0x80, 0xff} {
				spoilt := slices.Clone(good)
				spoilt[at] = c
				l = append(l, spoilt)
			}
		}
	}
	l = append(l,
		fill(1), fill(0, 1), fill(0, 0, 1), // a number that isn't whole, where k is less than 4
		fill(0, 0, 0, 200), fill(0, 0, 2, 0), fill(0xff, 0xff, 0xff, 0xff), fill(0x80, 0, 0, 0),
		fill(0, 0, 0, byte(k+1)), fill(0, 0, 0, 30, 'a', 'b'),
		filled(k, strings.Repeat("a", 513)), filled(k, strings.Repeat("\x00", 513)),
		filled(k, strings.Repeat("a", 600)), filled(k, strings.Repeat("a", 1<<12)),
	)
	return slices.DeleteFunc(l, func(b []byte) bool { return isValue(k, b) })
}

// isValue tells whether these are just the bytes of a value, filled.
func isValue(k int, b []byte) bool {
	if len(b) < 4 {
		return false
	}
	n := binary.BigEndian.Uint32(b)
	return n <= 512 && int(n)+4 <= len(b) && bytes.Equal(b, filled(k, string(b[4:4+n])))
}

func TestShardsOfNoValue(t *testing.T) {
	for _, s := range shapes() {
		l := notValues(s.K)
		if len(l) < 15 {
			t.Fatal(s, len(l))
		}
		for _, b := range l {
			shards := coded(s, b)
			for which := range 1 << len(shards) {
				if count(which) >= s.K {
					expect(t, s, some(shards, which), "", api.ErrForm)
				}
			}
		}
	}
}

// All bytes of few kinds as pieces of two bytes, of which the last K shards are
// at hand: the few that are a value's, and no others, are decoded.
func TestAllShortPieces(t *testing.T) {
	for _, s := range shapes() {
		if s.K > 4 {
			continue
		}
		found := 0
		b := make([]byte, 2*s.K)
		for i := range 1 << (2 * len(b)) {
			for at := range b {
				b[at] = byte(i >> (2 * at) & 3)
			}
			v, e := code.Decode(s, some(coded(s, b), (1<<s.K-1)<<(2*s.F)))
			want, err := "", api.ErrForm
			if isValue(s.K, b) {
				found++
				want, err = string(b[4:4+b[3]]), api.OK
			}
			if v != want || e != err {
				t.Fatalf("%v: Decode of %x = %q, %d, want %q, %d", s, b, v, e, want, err)
			}
		}
		if s.K > 1 && found == 0 {
			t.Error(s, "no value was among them")
		}
	}
}

// Shards of two values are no shards of one.
func TestMixedShards(t *testing.T) {
	for _, s := range shapes() {
		a, b := shardsOf(s, "abcdefghijk"), shardsOf(s, "abcdefghijl")
		for which := 1; which < 1<<len(a)-1; which++ {
			l := copied(a)
			for i := range l {
				if which>>i&1 == 1 {
					l[i] = b[i]
				}
			}
			switch {
			case same(l, a):
				expect(t, s, l, "abcdefghijk", api.OK)
			case same(l, b):
				expect(t, s, l, "abcdefghijl", api.OK)
			case s.F > 0:
				expect(t, s, l, "", api.ErrForm)
			}
		}
	}
}

// P5.3: with one shard turned, and K others and more, it isn't decoded at all.

func TestOneShardTurned(t *testing.T) {
	for _, s := range shapes() {
		for _, v := range []string{"", "ab", "abcdefghijk"} {
			l := shardsOf(s, v)
			for which := range 1 << len(l) {
				if count(which) <= s.K {
					continue
				}
				for i := range l {
					for at := range l[i] {
						if which>>i&1 == 0 {
							continue
						}
						for _, c := range []byte{1, 0x10, 0x80, 0xff} {
							spoilt := some(l, which)
							spoilt[i][at] ^= c
							expect(t, s, spoilt, "", api.ErrForm)
						}
					}
				}
			}
		}
	}
}

// Each turn of each byte, with all the others at hand.
func TestEveryTurn(t *testing.T) {
	for _, s := range shapes() {
		if s.F == 0 {
			continue
		}
		l := shardsOf(s, "abcdefghijk")
		for i := range l {
			for at := range l[i] {
				for c := 1; c < 256; c++ {
					l[i][at] ^= byte(c)
					if v, e := code.Decode(s, l); v != "" || e != api.ErrForm {
						t.Fatalf("%v: shard %d turned at %d by %x: %q, %d", s, i, at, c, v, e)
					}
					l[i][at] ^= byte(c)
				}
			}
		}
	}
}

// A shard of other bytes altogether, and such of the longest values.
func TestOneShardOfChance(t *testing.T) {
	r := rand.New(rand.NewSource(5))
	for _, s := range shapes() {
		for _, v := range values() {
			l := shardsOf(s, v)
			for i := range l {
				spoilt := copied(l)
				r.Read(spoilt[i])
				if bytes.Equal(spoilt[i], l[i]) {
					spoilt[i][0] ^= 1
				}
				if s.F > 0 {
					expect(t, s, spoilt, "", api.ErrForm)
				}
			}
		}
	}
}

// Whatever bytes: of a list that agrees a value is told just if it is one, and
// of one that doesn't nothing.
func checkBytes(t *testing.T, shape, which uint8, b []byte, place, at, turn uint8) {
	t.Helper()
	s := shapes()[int(shape)%len(shapes())]
	b = b[:len(b)/s.K*s.K]
	if len(b) == 0 {
		return
	}
	l := coded(s, b)
	w := int(which) & (1<<len(l) - 1)
	hand := some(l, w)
	if count(w) < s.K {
		expect(t, s, hand, "", api.ErrShort)
		return
	}
	if isValue(s.K, b) {
		expect(t, s, hand, string(b[4:4+binary.BigEndian.Uint32(b)]), api.OK)
	} else {
		expect(t, s, hand, "", api.ErrForm)
	}
	i := int(place) % len(l)
	if turn != 0 && len(hand[i]) > 0 && count(w) > s.K {
		hand[i][int(at)%len(hand[i])] ^= turn
		expect(t, s, hand, "", api.ErrForm)
	}
}

func FuzzDecode(f *testing.F) {
	for i, s := range shapes() {
		for _, v := range []string{"", "ab", "abcdefghijk", strings.Repeat("a", 512), strings.Repeat("a", 513)} {
			f.Add(uint8(i), uint8(0xff), filled(s.K, v), uint8(i), uint8(1), uint8(0x80))
			f.Add(uint8(i), uint8(0x7e), append(filled(s.K, v), make([]byte, s.K)...), uint8(1), uint8(0), uint8(1))
		}
	}
	f.Fuzz(checkBytes)
}

// Lists of other bytes than shards end too, however long they are.
func TestWhateverBytes(t *testing.T) {
	r := rand.New(rand.NewSource(6))
	for _, s := range shapes() {
		for range 200 {
			l := make([][]byte, code.N(s))
			for i := range l {
				l[i] = make([]byte, r.Intn(3))
				r.Read(l[i])
			}
			v, e := code.Decode(s, l)
			if e == api.OK {
				expect(t, s, l, v, e) // some are a value's by chance
			} else if v != "" || e != api.ErrForm && e != api.ErrShort {
				t.Fatalf("%v: Decode(%x) = %q, %d", s, l, v, e)
			}
		}
		long := make([][]byte, code.N(s))
		for i := range long {
			long[i] = bytes.Repeat([]byte{0xff}, 1<<16)
		}
		expect(t, s, long, "", api.ErrForm)
	}
}

// P5.4

// spare is the same shards, each with memory behind it that isn't its own.
func spare(l [][]byte) (tight, wide [][]byte) {
	for _, shard := range l {
		room := append(slices.Clone(shard), 41, 42, 43, 44)
		tight, wide = append(tight, room[:len(shard)]), append(wide, room)
	}
	return tight, wide
}

func fill(l [][]byte) {
	for _, shard := range l {
		for i := range shard[:cap(shard)] {
			shard[:cap(shard)][i] = 99
		}
	}
}

func TestEncodesAreNewMemory(t *testing.T) {
	for _, s := range shapes() {
		for _, v := range []string{"", "abcdefghijk", strings.Repeat("a", 512)} {
			want := shardsOf(s, v)
			first, _ := code.Encode(s, v)
			second, _ := code.Encode(s, v)
			for i := range first {
				before := copied(first)
				fill(first[i : i+1])
				before[i] = slices.Clone(first[i])
				if !same(first, before) {
					t.Fatalf("%v: shard %d shares memory with another one", s, i)
				}
			}
			fill([][]byte{append(first[0], 1, 2, 3)})
			if !same(second, want) {
				t.Fatalf("%v: two answers share memory", s)
			}
			if third, _ := code.Encode(s, v); !same(third, want) {
				t.Fatalf("%v: an answer that was changed came again", s)
			}
		}
	}
}

func TestListsStay(t *testing.T) {
	for _, s := range shapes() {
		good := shardsOf(s, "abcdefghijk")
		spoilt := copied(good)
		spoilt[len(spoilt)-1][0] ^= 1
		for _, l := range [][][]byte{good, spoilt, some(good, 1), some(good, 1<<len(good)-2), good[1:]} {
			tight, wide := spare(l)
			want := copied(wide)
			code.Decode(s, tight)
			for i := range len(l) + 1 {
				b, _ := code.Rebuild(s, tight, i)
				fill([][]byte{b})
				b = append(b, 1, 2, 3)
				fill([][]byte{b})
			}
			if !same(wide, want) || len(tight) != len(l) {
				t.Fatalf("%v: %x became %x", s, want, wide)
			}
		}
	}
}

func TestRebuildsAreNewMemory(t *testing.T) {
	for _, s := range shapes() {
		want := shardsOf(s, "abcdefghijk")
		for i := range want {
			l := copied(want)
			first, _ := code.Rebuild(s, l, i)
			second, _ := code.Rebuild(s, l, i)
			fill([][]byte{first})
			if !bytes.Equal(second, want[i]) || !same(l, want) {
				t.Fatalf("%v: Rebuild at %d shares memory", s, i)
			}
			fill(l)
			if !bytes.Equal(second, want[i]) {
				t.Fatalf("%v: Rebuild at %d answered what was handed in", s, i)
			}
			if third, _ := code.Rebuild(s, want, i); !bytes.Equal(third, want[i]) {
				t.Fatalf("%v: Rebuild at %d answered what was changed", s, i)
			}
		}
	}
}

// A value that was told stays as it is, whatever becomes of its shards.
func TestDecodedStays(t *testing.T) {
	for _, s := range shapes() {
		l := shardsOf(s, "abcdefghijk")
		v, e := code.Decode(s, l)
		fill(l)
		if v != "abcdefghijk" || e != api.OK {
			t.Errorf("%v: %q, %d", s, v, e)
		}
	}
}
