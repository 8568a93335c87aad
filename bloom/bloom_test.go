package bloom_test

import (
	"bytes"
	"encoding/hex"
	"fmt"
	"hash/crc32"
	"math"
	"math/rand"
	"runtime/debug"
	"slices"
	"strings"
	"testing"

	"shardlog/bloom"
)

const mostBits = 1 << 20

// The words of the chapter once more, by the Go library alone.

func sum(b string) uint64 {
	return uint64(crc32.Checksum([]byte(b), crc32.MakeTable(crc32.Castagnoli)))
}

// bitsOf are counted in numbers that don't overflow: what is above 2^32 is taken
// off by hand.
func bitsOf(key string, n uint64) []uint64 {
	a, b := sum(key), sum("\x01"+key)
	l := []uint64{a, a + b, a + 2*b}
	for i := range l {
		for l[i] >= 1<<32 {
			l[i] -= 1 << 32
		}
		l[i] %= n
	}
	return l
}

func isSet(f []byte, i uint64) bool { return int(f[i/8])>>(i%8)%2 == 1 }

func filterOf(keys []string) []byte {
	f := make([]byte, max(1, len(keys)))
	for _, key := range keys {
		for _, i := range bitsOf(key, uint64(8*len(f))) {
			if !isSet(f, i) {
				f[i/8] += []byte{1, 2, 4, 8, 16, 32, 64, 128}[i%8]
			}
		}
	}
	return f
}

func hasAll(f []byte, key string) bool {
	if len(f) == 0 {
		return true
	}
	for _, i := range bitsOf(key, uint64(8*len(f))) {
		if !isSet(f, i) {
			return false
		}
	}
	return true
}

// Messages.

func sayKeys(keys []string) string {
	return fmt.Sprintf("%d keys %.20q", len(keys), keys[:min(8, len(keys))])
}

func short(f []byte) string {
	if len(f) > 60 {
		return fmt.Sprint(len(f), " bytes ", hex.EncodeToString(f[:60]), "..")
	}
	return hex.EncodeToString(f)
}

// Keys and filters that the tests share.

// someKeys are texts of all kinds: no bytes, those that look like a byte 1 ahead
// of another key, bytes that are no UTF-8, long ones.
func someKeys() []string {
	l := []string{
		"", "\x00", "\x01", "\x01\x01", "\x00\x01", "\x01\x00", "k", "\x01k", "k\x01", "\x01\x01k", "a", "b", "ab", "ba", "a\x00", "row", "123456789",
		"\xff", "\xff\xfe", "\x80", "gr\u00fc\u00df", "\u2022", "\ufffd", "a\nb", strings.Repeat("\x00", 40), strings.Repeat("\xff", 4), strings.Repeat("n", 64),
		"\x00\x00\x00\x01a\x00\x00\x00\x01x", strings.Repeat("v", 5000), "r" + strings.Repeat("\x00\x01", 70000),
	}
	for i := range 60 {
		l = append(l, fmt.Sprint("key", i))
	}
	return l
}

// number are n keys, no two alike.
func number(prefix string, n int) []string {
	var l []string
	for i := range n {
		l = append(l, fmt.Sprint(prefix, i))
	}
	return l
}

func randomKeys(r *rand.Rand, n int) []string {
	var l []string
	for range n {
		b := make([]byte, r.Intn(12))
		r.Read(b)
		l = append(l, string(b))
	}
	return l
}

func someLists() [][]string {
	l := [][]string{
		nil, {}, {""}, {"", ""}, {"\x00"}, {"a"}, {"a", "b"}, {"b", "a"}, {"a", "a"}, {"a", "a", "a", "b"}, {"k", "\x01k"}, someKeys(), someKeys()[:9],
		number("key", 7), number("key", 8), number("", 9), number("x", 255), number("x", 256), number("x", 257), number("y", 1000), number("y", 5003),
		slices.Repeat([]string{"same"}, 300), slices.Concat(someKeys(), someKeys()),
	}
	r := rand.New(rand.NewSource(3))
	for n := range 40 {
		l = append(l, randomKeys(r, n))
	}
	return l
}

// P11.2, of great filters: those of as many bits as a word tells, and of more. Of
// those above, no key has one. This test stands ahead of the others, as then the
// bytes are zeros that no one has used, of which few are ever touched; what the
// others make needs no such room.
func TestHasOfGreatFilters(t *testing.T) {
	defer debug.FreeOSMemory()
	all := make([]byte, 1<<29+3)
	for _, n := range []int{mostBits/8 + 1, 1<<29 - 1, 1 << 29, 1<<29 + 1, 1<<29 + 3} {
		f := all[:n]
		for _, key := range []string{"", "k", "key0", "\xff"} {
			for _, i := range bitsOf(key, uint64(8*n)) {
				if bloom.Has(f, key) {
					t.Errorf("%d bytes, %q: there without bit %d", n, key, i)
				}
				f[i/8] |= 1 << (i % 8)
			}
			if !bloom.Has(f, key) {
				t.Errorf("%d bytes, %q: not there", n, key)
			}
			for _, i := range bitsOf(key, uint64(8*n)) {
				f[i/8] = 0
			}
		}
	}
}

// P11.1

func checkBits(t *testing.T, key string, n int) {
	t.Helper()
	var want []int
	for _, i := range bitsOf(key, uint64(n)) {
		want = append(want, int(i))
	}
	if l := bloom.Bits(key, n); !slices.Equal(l, want) {
		t.Errorf("Bits(%.20q, %d) = %v, want %v", key, n, l, want)
	}
}

// Numbers that were worked out apart from the program: of keys where nothing goes
// beyond a word, where a and b do, where twice b does, where both do.
func TestBitsByTheLetter(t *testing.T) {
	for _, c := range []struct {
		key  string
		n    int
		want []int
	}{
		{"", 1, []int{0, 0, 0}}, {"", 3, []int{0, 1, 1}}, {"", 8, []int{0, 2, 4}}, {"", 1000, []int{0, 682, 68}}, {"", mostBits, []int{0, 446546, 893092}},
		{"k", 3, []int{2, 2, 2}}, {"k", 8, []int{0, 4, 0}}, {"k", 1000, []int{920, 868, 816}}, {"k", mostBits - 1, []int{161195, 1003343, 796916}},
		{"a", 8, []int{0, 4, 0}}, {"a", 1000, []int{376, 924, 768}}, {"a", mostBits, []int{17200, 1000180, 934584}}, {"a", mostBits - 1, []int{20301, 1000999, 937218}},
		{"\x00", 2, []int{1, 0, 1}}, {"\x00", 3, []int{2, 1, 0}}, {"\x00", 1000, []int{41, 430, 819}}, {"\x00", mostBits - 1, []int{874616, 83530, 341019}},
		{"\x01", 1000, []int{682, 0, 318}}, {"123456789", 1000, []int{755, 561, 663}}, {"\xff\xfe", 1000, []int{675, 120, 565}},
		{strings.Repeat("n", 64), 1000, []int{59, 250, 441}}, {"key0", 1000, []int{204, 550, 192}}, {"key0", mostBits, []int{24868, 300190, 575512}},
	} {
		if l := bloom.Bits(c.key, c.n); !slices.Equal(l, c.want) {
			t.Errorf("Bits(%q, %d) = %v, want %v", c.key, c.n, l, c.want)
		}
	}
}

func TestBits(t *testing.T) {
	for _, key := range someKeys() {
		for _, n := range []int{1, 2, 3, 5, 7, 8, 9, 16, 100, 255, 256, 257, 800, 1000, 65535, 65536, 65537, 1<<19 - 1, 1<<19 + 1, mostBits - 8, mostBits - 1, mostBits} {
			checkBits(t, key, n)
		}
	}
}

func TestBitsOfAllShortNumbers(t *testing.T) {
	for _, key := range []string{"", "k", "a", "\x00", "key0", "\xff"} {
		for n := 1; n < 3000; n++ {
			checkBits(t, key, n)
		}
	}
}

func TestBitsOfMadeUpKeys(t *testing.T) {
	r := rand.New(rand.NewSource(1))
	for _, key := range randomKeys(r, 20000) {
		checkBits(t, key, 1+r.Intn(mostBits))
	}
}

// No more is promised of other numbers than that the call ends.
func TestBitsOfOtherNumbers(t *testing.T) {
	for _, key := range someKeys() {
		for _, n := range []int{0, -1, -8, -mostBits, math.MinInt, math.MinInt + 1, -1 << 32, mostBits + 1, 1 << 31, 1 << 32, 1<<32 + 8, math.MaxInt} {
			if l := bloom.Bits(key, n); len(l) != 0 {
				t.Errorf("Bits(%.20q, %d) = %v", key, n, l)
			}
		}
	}
}

func checkMake(t *testing.T, keys []string) {
	t.Helper()
	if f, want := bloom.Make(keys), filterOf(keys); !bytes.Equal(f, want) {
		t.Errorf("Make of %s: %s, want %s", sayKeys(keys), short(f), short(want))
	}
}

func TestMakeByTheLetter(t *testing.T) {
	for _, c := range []struct {
		keys []string
		want string
	}{
		{nil, "00"}, {[]string{}, "00"}, // the chapter's example
		{[]string{""}, "15"}, {[]string{"k"}, "11"}, {[]string{"a", "b"}, "1101"}, {[]string{"b", "a"}, "1101"}, {[]string{"a", "b", "c"}, "911430"},
		{[]string{"", "\x00", "\x01"}, "194442"}, {number("key", 20), "3911d0c981294041510123137181520900383843"},
	} {
		if f := bloom.Make(c.keys); hex.EncodeToString(f) != c.want {
			t.Errorf("Make of %s: %x, want %s", sayKeys(c.keys), f, c.want)
		}
	}
}

func TestMake(t *testing.T) {
	for _, keys := range someLists() {
		checkMake(t, keys)
	}
	for n := range 300 {
		checkMake(t, number("n", n))
	}
}

// Filters of more bits than Bits tells of.
func TestMakeOfManyKeys(t *testing.T) {
	for _, n := range []int{mostBits/8 - 1, mostBits / 8, mostBits/8 + 1, 200000} {
		checkMake(t, number("", n))
	}
}

// Just the keys' bits: those that Bits tells of, and no others.
func TestMakeByBits(t *testing.T) {
	for _, keys := range someLists() {
		f := bloom.Make(keys)
		if len(f) != max(1, len(keys)) {
			t.Errorf("Make of %s: %d bytes", sayKeys(keys), len(f))
			continue
		}
		for _, key := range keys {
			for _, i := range bloom.Bits(key, 8*len(f)) {
				f[i/8] |= 1 << (i % 8)
			}
		}
		if !bytes.Equal(f, bloom.Make(keys)) {
			t.Errorf("Make of %s: a key's bits aren't set", sayKeys(keys))
		}
		for _, key := range keys {
			for _, i := range bloom.Bits(key, 8*len(f)) {
				f[i/8] &^= 1 << (i % 8)
			}
		}
		if !bytes.Equal(f, make([]byte, len(f))) {
			t.Errorf("Make of %s: other bits are set", sayKeys(keys))
		}
	}
}

// P11.2

func checkHas(t *testing.T, f []byte, key string) {
	t.Helper()
	if has, want := bloom.Has(f, key), hasAll(f, key); has != want {
		t.Errorf("Has(%s, %.20q) = %v, want %v", short(f), key, has, want)
	}
}

func TestHasByTheLetter(t *testing.T) {
	for _, c := range []struct {
		f    string
		key  string
		want bool
	}{
		{"15", "", true}, {"14", "", false}, {"11", "", false}, {"05", "", false}, {"ea", "", false}, {"ff", "", true}, {"00", "", false},
		{"11", "k", true}, {"10", "k", false}, {"01", "k", false}, {"88", "k", false}, {"911430", "a", true}, {"911430", "b", true}, {"911430", "c", true},
		{"911430", "d", true}, {"911430", "e", false}, {"911430", "f", false}, {"911430", "key0", false}, {"001100", "a", false}, {"", "", true}, {"", "k", true},
	} {
		f, err := hex.DecodeString(c.f)
		if has := bloom.Has(f, c.key); has != c.want || err != nil {
			t.Errorf("Has(%s, %q) = %v, want %v", c.f, c.key, has, c.want)
		}
	}
}

func TestHasOfAnEmptyFilter(t *testing.T) {
	for _, key := range someKeys() {
		for _, f := range [][]byte{nil, {}, make([]byte, 8)[:0]} {
			if !bloom.Has(f, key) {
				t.Errorf("%.20q", key)
			}
		}
	}
}

func TestHas(t *testing.T) {
	for _, keys := range someLists() {
		for _, f := range [][]byte{bloom.Make(keys), make([]byte, len(keys)), bytes.Repeat([]byte{0xff}, len(keys)), append(bloom.Make(keys), 0), bloom.Make(keys)[1:]} {
			for _, key := range someKeys() {
				checkHas(t, f, key)
			}
		}
	}
}

// All filters of one byte, and of two.
func TestHasOfShortFilters(t *testing.T) {
	for i := range 1 << 8 {
		for _, key := range someKeys()[:28] {
			checkHas(t, []byte{byte(i)}, key)
		}
	}
	for i := range 1 << 16 {
		for _, key := range []string{"", "a", "key0", "\xff\xfe"} {
			checkHas(t, []byte{byte(i), byte(i >> 8)}, key)
		}
	}
}

// A filter of the key's bits alone has it, and without one of them hasn't.
func TestHasWithoutOneBit(t *testing.T) {
	for _, key := range someKeys() {
		for _, n := range []int{1, 2, 3, 7, 20, 100, 1024, 5000} {
			none, all := make([]byte, n), bytes.Repeat([]byte{0xff}, n)
			for _, i := range bitsOf(key, uint64(8*n)) {
				none[i/8] |= 1 << (i % 8)
				all[i/8] &^= 1 << (i % 8)
				if bloom.Has(all, key) {
					t.Errorf("%.20q, %d bytes: there without bit %d", key, n, i)
				}
				all[i/8] |= 1 << (i % 8)
			}
			if !bloom.Has(none, key) {
				t.Errorf("%.20q, %d bytes: not there", key, n)
			}
		}
	}
}

func TestHasOfMadeUpFilters(t *testing.T) {
	r := rand.New(rand.NewSource(2))
	for range 20000 {
		f, more := make([]byte, r.Intn(30)), make([]byte, 30)
		r.Read(f)
		r.Read(more)
		for i := range f {
			f[i] |= more[i]
		}
		checkHas(t, f, randomKeys(r, 1)[0])
	}
}

// P11.3

func TestFilterHasItsKeys(t *testing.T) {
	lists := append(someLists(), number("", mostBits/8+1))
	for _, keys := range lists {
		f := bloom.Make(keys)
		for _, key := range keys {
			if !bloom.Has(f, key) {
				t.Errorf("%s: %.20q isn't there", sayKeys(keys), key)
			}
		}
	}
}

// What stood in the list twice gives way to other keys, so that the filter has as
// many bits as before.
func TestNoneIsLostWithMoreKeys(t *testing.T) {
	for _, key := range someKeys()[:28] {
		keys := slices.Repeat([]string{key}, 60)
		f := bloom.Make(keys)
		for i, other := range number("other", 59) {
			keys[i+1] = other
			more := bloom.Make(keys)
			if len(more) != len(f) {
				t.Fatalf("%d and %d bytes", len(f), len(more))
			}
			for j := range f {
				if f[j]&^more[j] != 0 {
					t.Errorf("%.20q and %d more: byte %d was %x, is %x", key, i+1, j, f[j], more[j])
				}
			}
			for _, had := range keys[:i+2] {
				if !bloom.Has(more, had) {
					t.Errorf("%.20q and %d more: %q is lost", key, i+1, had)
				}
			}
			f = more
		}
	}
}

// Two filters of the same number of bits, and what either has: both together have
// it, and whatever else is set.
func TestNoneIsLostWithMoreBits(t *testing.T) {
	r := rand.New(rand.NewSource(4))
	for n := 1; n < 60; n++ {
		one, two := randomKeys(r, n), randomKeys(r, n)
		f, g := bloom.Make(one), bloom.Make(two)
		for i := range f {
			f[i] |= g[i]
		}
		for range 20 {
			f[r.Intn(n)] |= 1 << r.Intn(8)
			for _, key := range slices.Concat(one, two) {
				if !bloom.Has(f, key) {
					t.Errorf("%d bytes: %q is lost", n, key)
				}
			}
		}
	}
}

// The order of the keys is nothing to the filter.
func TestMakeOfAllOrders(t *testing.T) {
	r := rand.New(rand.NewSource(5))
	for _, keys := range someLists() {
		f := bloom.Make(keys)
		for range 5 {
			other := slices.Clone(keys)
			r.Shuffle(len(other), func(i, j int) { other[i], other[j] = other[j], other[i] })
			if !bytes.Equal(bloom.Make(other), f) {
				t.Errorf("%s and %s: other filters", sayKeys(keys), sayKeys(other))
			}
		}
	}
}

// P11.4

func TestBitsAreNewMemory(t *testing.T) {
	for _, key := range someKeys() {
		one, two := bloom.Bits(key, 1000), bloom.Bits(key, 1000)
		want := slices.Clone(two)
		one = one[:cap(one)]
		for i := range one {
			one[i] = -1
		}
		if !slices.Equal(two, want) || !slices.Equal(bloom.Bits(key, 1000), want) {
			t.Errorf("%.20q: %v, want %v", key, two, want)
		}
	}
}

func TestFiltersAreNewMemory(t *testing.T) {
	for _, keys := range someLists() {
		one, two := bloom.Make(keys), bloom.Make(keys)
		want := filterOf(keys)
		one = one[:cap(one)]
		for i := range one {
			one[i] = 0xaa
		}
		if !bytes.Equal(two, want) || !bytes.Equal(bloom.Make(keys), want) {
			t.Errorf("%s: %s, want %s", sayKeys(keys), short(two), short(want))
		}
	}
}

func TestKeysStay(t *testing.T) {
	for _, keys := range someLists() {
		room := append(slices.Clone(keys), "behind", "them")
		want := slices.Clone(room)
		f := bloom.Make(room[:len(keys)])
		if !slices.Equal(room, want) {
			t.Errorf("%s are changed", sayKeys(keys))
		}
		for i := range room {
			room[i] = "another"
		}
		if !bytes.Equal(f, filterOf(keys)) {
			t.Errorf("%s are kept", sayKeys(keys))
		}
	}
}

func TestFilterStays(t *testing.T) {
	r := rand.New(rand.NewSource(6))
	for n := range 40 {
		room := make([]byte, n+5)
		r.Read(room)
		want := slices.Clone(room)
		for _, key := range someKeys() {
			bloom.Has(room[:n], key)
		}
		if !bytes.Equal(room, want) {
			t.Errorf("%s is %s", short(want), short(room))
		}
	}
}

// A filter is asked as it is, not as it once was.
func TestFilterIsNotKept(t *testing.T) {
	f := bloom.Make([]string{"a", "b", "c"})
	if !bloom.Has(f, "a") {
		t.Error("a isn't there")
	}
	clear(f)
	if bloom.Has(f, "a") {
		t.Error("a is there still")
	}
	copy(f, "\xff\xff\xff")
	if !bloom.Has(f, "a") {
		t.Error("a isn't there again")
	}
}

// P1: whatever a call is given, it ends. The test itself fails if one doesn't.
func FuzzHas(f *testing.F) {
	for _, key := range someKeys()[:28] {
		f.Add([]byte{}, key, 0)
		f.Add([]byte{0x15}, key, 1)
		f.Add(bloom.Make(number("key", 9)), key, 1000)
		f.Add(bytes.Repeat([]byte{0xff}, 3), key, mostBits)
	}
	f.Fuzz(func(t *testing.T, b []byte, key string, n int) {
		checkHas(t, b, key)
		checkMake(t, []string{key, string(b), key})
		if n >= 1 && n <= mostBits {
			checkBits(t, key, n)
		} else if l := bloom.Bits(key, n); len(l) != 0 {
			t.Errorf("Bits(%.20q, %d) = %v", key, n, l)
		}
	})
}
