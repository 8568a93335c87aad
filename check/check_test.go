package check_test

import (
	"bytes"
	"encoding/binary"
	"hash/crc32"
	"math/bits"
	"math/rand"
	"slices"
	"strings"
	"testing"

	"shardlog/check"
)

// librarySum is the sum as Go's library has it, apart from package check.
func librarySum(b []byte) uint32 {
	return crc32.Checksum(b, crc32.MakeTable(crc32.Castagnoli))
}

func libraryMore(sum uint32, b []byte) uint32 {
	return crc32.Update(sum, crc32.MakeTable(crc32.Castagnoli), b)
}

// count is the bytes 0, 1, 2, ..
func count(n int) []byte {
	b := make([]byte, n)
	for i := range b {
		b[i] = byte(i)
	}
	return b
}

func backwards(b []byte) []byte {
	b = bytes.Clone(b)
	slices.Reverse(b)
	return b
}

// made is n bytes of no pattern, always the same ones.
func made(n int) []byte {
	b := make([]byte, n)
	rand.New(rand.NewSource(int64(n))).Read(b)
	return b
}

// someBytes are ordinary bytes and those at the edges: none, zeros and ones
// alone, each single byte, and lengths around those of words and disks.
func someBytes() [][]byte {
	l := [][]byte{
		nil, {}, []byte("a"), []byte("ab"), []byte("123456789"),
		make([]byte, 32), bytes.Repeat([]byte{0xff}, 32), count(256),
	}
	for v := range 256 {
		l = append(l, []byte{byte(v)})
	}
	for n := range 70 {
		l = append(l, made(n))
	}
	return append(l, made(512), made(1<<16-1), made(1<<16))
}

// someSums are words of few and of many bits; each word is the sum of some
// bytes, so More goes on from any.
func someSums() []uint32 {
	l := []uint32{0, 1, 0xffffffff, 0xfffffffe, 0x82f63b78, 0x7d09c487, 0xe3069283, 0x80000000, 0x7fffffff}
	for i := range 32 {
		l = append(l, 1<<i)
	}
	return l
}

// P2.1

func TestSum(t *testing.T) {
	for _, c := range []struct {
		b    []byte
		want uint32
	}{
		{nil, 0},
		{[]byte{}, 0},
		{[]byte{0}, 0x527d5351},
		{[]byte{0xff}, 0xff000000},
		{[]byte{0xff, 0xff, 0xff, 0xff}, 0xffffffff},
		{[]byte("a"), 0xc1d04330},
		{[]byte("123456789"), 0xe3069283},
		{[]byte("The quick brown fox jumps over the lazy dog"), 0x22620404},
		{make([]byte, 4), 0x48674bc7},
		// The four examples of RFC 3720, B.4.
		{make([]byte, 32), 0x8a9136aa},
		{bytes.Repeat([]byte{0xff}, 32), 0x62a8ab43},
		{count(32), 0x46dd794e},
		{backwards(count(32)), 0x113fdb5c},
	} {
		if x := check.Sum(c.b); x != c.want {
			t.Errorf("Sum(%v) = %08x, want %08x", c.b, x, c.want)
		}
	}
}

func TestSumIsTheLibrarys(t *testing.T) {
	for _, b := range someBytes() {
		if x, want := check.Sum(b), librarySum(b); x != want {
			t.Errorf("Sum of %d bytes = %08x, want %08x", len(b), x, want)
		}
	}
}

// All bytes of length two: each byte at a beginning and behind each other one.
func TestSumOfAllPairs(t *testing.T) {
	for n := range 1 << 16 {
		b := []byte{byte(n >> 8), byte(n)}
		if x, want := check.Sum(b), librarySum(b); x != want {
			t.Fatalf("Sum(%v) = %08x, want %08x", b, x, want)
		}
	}
}

func TestMore(t *testing.T) {
	for _, c := range []struct {
		sum  uint32
		b    string
		want uint32
	}{
		{0, "", 0},
		{0, "123456789", 0xe3069283},
		{0xc1d04330, "", 0xc1d04330},
		{0xe3069283, "", 0xe3069283},
		{0xffffffff, "", 0xffffffff},
		{check.Sum([]byte("1")), "23456789", 0xe3069283},
		{check.Sum([]byte("12345678")), "9", 0xe3069283},
		{check.Sum([]byte("123456789")), "1", check.Sum([]byte("1234567891"))},
	} {
		if x := check.More(c.sum, []byte(c.b)); x != c.want {
			t.Errorf("More(%08x, %q) = %08x, want %08x", c.sum, c.b, x, c.want)
		}
	}
	if check.More(7, nil) != 7 || check.More(7, []byte{}) != 7 {
		t.Error("More of nothing is another sum")
	}
}

func TestMoreGoesOnFromAnySum(t *testing.T) {
	for _, sum := range someSums() {
		for _, b := range [][]byte{nil, {0}, {0xff}, {0, 0, 0, 0}, []byte("ab"), count(9), made(100)} {
			if x, want := check.More(sum, b), libraryMore(sum, b); x != want {
				t.Errorf("More(%08x, %v) = %08x, want %08x", sum, b, x, want)
			}
		}
	}
}

// Cut in two and in three, everywhere, pieces without bytes among them.
func TestMoreOfPieces(t *testing.T) {
	for _, b := range [][]byte{nil, []byte("123456789"), make([]byte, 12), made(40)} {
		want := librarySum(b)
		for i := range len(b) + 1 {
			if x := check.More(check.Sum(b[:i]), b[i:]); x != want {
				t.Errorf("%v cut at %d: %08x, want %08x", b, i, x, want)
			}
			for j := i; j <= len(b); j++ {
				x := check.More(check.More(check.Sum(b[:i]), b[i:j]), b[j:])
				if x != want {
					t.Errorf("%v cut at %d and %d: %08x, want %08x", b, i, j, x, want)
				}
			}
		}
	}
}

func TestMoreByteByByte(t *testing.T) {
	b := made(1000)
	sum := uint32(0)
	for i, c := range b {
		sum = check.More(sum, []byte{c})
		if want := librarySum(b[:i+1]); sum != want {
			t.Fatalf("behind byte %d: %08x, want %08x", i, sum, want)
		}
	}
}

func TestGood(t *testing.T) {
	for _, c := range []struct {
		b    string
		sum  uint32
		want bool
	}{
		{"", 0, true},
		{"", 1, false},
		{"", 0xffffffff, false},
		{"a", 0xc1d04330, true},
		{"a", 0, false},
		{"b", 0xc1d04330, false},
		{"A", 0xc1d04330, false},
		{"aa", 0xc1d04330, false},
		{"\x00a", 0xc1d04330, false},
		{"a\x00", 0xc1d04330, false},
		{"123456789", 0xe3069283, true},
		{"12345678", 0xe3069283, false},
		{"123456798", 0xe3069283, false},
		{"123456789", ^uint32(0xe3069283), false},
		{"123456789", bits.ReverseBytes32(0xe3069283), false},
		{"123456789", bits.Reverse32(0xe3069283), false},
		{"123456789", 0xcbf43926, false}, // the sum of another polynomial, CRC-32
	} {
		if ok := check.Good([]byte(c.b), c.sum); ok != c.want {
			t.Errorf("Good(%q, %08x) = %v", c.b, c.sum, ok)
		}
	}
}

// Just the one sum: none that differs in one bit, or in any two.
func TestGoodOfOneSumAlone(t *testing.T) {
	for _, b := range someBytes() {
		want := librarySum(b)
		if !check.Good(b, want) {
			t.Errorf("Good of %d bytes and their sum is false", len(b))
		}
	}
	for _, b := range [][]byte{nil, {0}, []byte("123456789"), made(40)} {
		want := librarySum(b)
		for i := range 32 {
			for j := range i + 1 {
				if wrong := want ^ (1<<i | 1<<j); check.Good(b, wrong) {
					t.Errorf("Good(%v, %08x), but the sum is %08x", b, wrong, want)
				}
			}
		}
	}
}

// P2.2

// turned is b with the bits of run turned from bit at on, counted from each
// byte's lowest bit to its highest; what would be turned behind b's end isn't.
func turned(b []byte, at int, run uint32) []byte {
	b = bytes.Clone(b)
	for ; run != 0; run, at = run>>1, at+1 {
		if at < 8*len(b) {
			b[at/8] ^= byte(run&1) << (at % 8)
		}
	}
	return b
}

func checkTurned(t *testing.T, b []byte, at int, run uint32) {
	t.Helper()
	spoilt, sum := turned(b, at, run), check.Sum(b)
	if bytes.Equal(spoilt, b) {
		t.Fatalf("%d bytes, run %x at %d: nothing is turned", len(b), run, at)
	}
	if check.Sum(spoilt) == sum || check.Good(spoilt, sum) {
		t.Fatalf("%d bytes, run %x at %d: the same sum %08x", len(b), run, at, sum)
	}
}

// All runs of one to 11 bits, at all places, within a byte and over the border
// of two and of three.
func TestShortRuns(t *testing.T) {
	const most = 11
	for _, b := range [][]byte{{0}, {0xff}, make([]byte, 3), []byte("123456789")} {
		for at := range 8 * len(b) {
			for run := uint32(1); run < 1<<min(most, 8*len(b)-at); run++ {
				checkTurned(t, b, at, run)
			}
		}
	}
}

// Runs of each length up to 32 bits, with what is between its two ends turned
// all, not at all, and without a pattern.
func TestLongRuns(t *testing.T) {
	r := rand.New(rand.NewSource(2))
	for _, b := range [][]byte{make([]byte, 4), []byte("123456789"), made(40), made(515)} {
		for length := 1; length <= 32; length++ {
			last := 8*len(b) - length
			for at := 0; at <= last; at += 1 + last/60 {
				two := uint32(1) | 1<<(length-1)
				all := uint32(1<<length - 1)
				for _, run := range []uint32{two, all, two | r.Uint32()&all, two | r.Uint32()&all} {
					checkTurned(t, b, at, run)
				}
			}
			checkTurned(t, b, last, uint32(1<<length-1))
		}
	}
}

// independent tells whether no exclusive or of some of the words is 0.
func independent(words []uint32) bool {
	var byTop [32]uint32
	for _, w := range words {
		for w != 0 && byTop[bits.Len32(w)-1] != 0 {
			w ^= byTop[bits.Len32(w)-1]
		}
		if w == 0 {
			return false
		}
		byTop[bits.Len32(w)-1] = w
	}
	return true
}

// What one turned bit changes in the sum doesn't hang on the other bits
// (TestTurnsAdd), so that a run changes the exclusive or of what its bits do.
// That is never 0, whichever of the 2^32 - 1 runs at a place it is, if these 32
// changes are independent.
func TestAllRunsOf32Bits(t *testing.T) {
	for _, n := range []int{4, 5, 9, 64, 520} {
		b := made(n)
		sum := check.Sum(b)
		change := make([]uint32, 8*n)
		for at := range change {
			change[at] = sum ^ check.Sum(turned(b, at, 1))
		}
		for at := range len(change) - 31 {
			if !independent(change[at : at+32]) {
				t.Errorf("%d bytes: some run of 32 bits at %d changes nothing", n, at)
			}
		}
	}
}

func TestTurnsAdd(t *testing.T) {
	for _, n := range []int{1, 4, 9, 64} {
		a, b, c, all := made(n), made(n + 100)[:n], made(n + 200)[:n], make([]byte, n)
		for i := range all {
			all[i] = a[i] ^ b[i] ^ c[i]
		}
		if x, want := check.Sum(all), check.Sum(a)^check.Sum(b)^check.Sum(c); x != want {
			t.Errorf("%d bytes: %08x, want %08x", n, x, want)
		}
	}
}

// A run that is turned in the piece ahead is told by the sum that goes on.
func TestRunsAheadOfMore(t *testing.T) {
	b, behind := []byte("123456789"), made(30)
	sum := check.More(check.Sum(b), behind)
	for at := range 8 * len(b) {
		for _, run := range []uint32{1, 3, 0x80000001, 0xffffffff} {
			if check.More(check.Sum(turned(b, at, run)), behind) == sum {
				t.Errorf("run %x at %d: the same sum", run, at)
			}
		}
	}
}

// What holds everywhere

func TestCallsLeaveWhatIsHandedIn(t *testing.T) {
	whole := []byte("123456789 and spare memory behind it")
	want := bytes.Clone(whole)
	b := whole[:9]
	check.Sum(b)
	check.More(5, b)
	check.Good(b, 0xe3069283)
	check.Good(b, 0)
	if !bytes.Equal(whole, want) {
		t.Errorf("%q became %q", want, whole)
	}
}

// Nothing is kept from call to call, and spare memory doesn't count.
func TestAnswersHangOnArgumentsAlone(t *testing.T) {
	short := []byte("123456789")
	spare := append(make([]byte, 0, 100), short...)
	for range 3 {
		if check.Sum(short) != 0xe3069283 || check.Sum(spare) != 0xe3069283 || !check.Good(spare, 0xe3069283) {
			t.Error("another sum of the same bytes")
		}
		check.More(0x12345678, made(9))
	}
	text := strings.Repeat("ab", 50)
	b := []byte(text)
	before := check.Sum(b)
	b[99] ^= 1
	if check.Sum(b) == before {
		t.Error("the sum of what stood there is kept")
	}
}

func FuzzSum(f *testing.F) {
	for _, sum := range someSums() {
		f.Add(binary.BigEndian.AppendUint32(nil, sum), sum, 0, uint32(1))
	}
	f.Add([]byte("123456789"), uint32(0xe3069283), 3, uint32(0x80000001))
	f.Fuzz(func(t *testing.T, b []byte, sum uint32, at int, run uint32) {
		if x, want := check.Sum(b), librarySum(b); x != want {
			t.Errorf("Sum(%v) = %08x, want %08x", b, x, want)
		}
		if x, want := check.More(sum, b), libraryMore(sum, b); x != want {
			t.Errorf("More(%08x, %v) = %08x, want %08x", sum, b, x, want)
		}
		if ok, want := check.Good(b, sum), librarySum(b) == sum; ok != want {
			t.Errorf("Good(%v, %08x) = %v", b, sum, ok)
		}
		if at >= 0 && at < 8*len(b) && run&1 == 1 {
			checkTurned(t, b, at, run)
		}
	})
}
