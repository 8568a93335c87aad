package frame_test

import (
	"bytes"
	"encoding/binary"
	"encoding/hex"
	"hash/crc32"
	"math/rand"
	"slices"
	"strings"
	"testing"

	"shardlog/frame"
)

const (
	longest = 65535
	head    = 12
)

// The words of the chapter once more, by the Go library alone.

func num(n uint32) []byte { return binary.BigEndian.AppendUint32(nil, n) }

func sum(b []byte) uint32 { return crc32.Checksum(b, crc32.MakeTable(crc32.Castagnoli)) }

// framed is the frame of a record, of one that is too long too.
func framed(rec []byte) []byte {
	length := num(uint32(len(rec)))
	return join(length, num(sum(length)), num(sum(rec)), rec)
}

func framesOf(recs [][]byte) []byte {
	var b []byte
	for _, rec := range recs {
		b = append(b, framed(rec)...)
	}
	return b
}

// scanned is the records at the beginning of b, and where the last one ends.
func scanned(b []byte) ([][]byte, int) {
	var l [][]byte
	at := 0
	for len(b)-at >= head {
		n := int64(binary.BigEndian.Uint32(b[at:]))
		if n > longest || n > int64(len(b)-at-head) {
			break
		}
		end := at + head + int(n)
		if !bytes.Equal(b[at:end], framed(b[at+head:end])) {
			break
		}
		l = append(l, b[at+head:end])
		at = end
	}
	return l, at
}

func join(parts ...[]byte) []byte { return slices.Concat(parts...) }

func same(a, b [][]byte) bool { return slices.EqualFunc(a, b, bytes.Equal) }

func copied(l [][]byte) [][]byte {
	c := make([][]byte, len(l))
	for i, b := range l {
		c[i] = slices.Clone(b)
	}
	return c
}

// made is n bytes of no pattern, always the same ones.
func made(n int) []byte {
	b := make([]byte, n)
	rand.New(rand.NewSource(int64(n))).Read(b)
	return b
}

// short is bytes in a message: the longest would fill the screen.
func short(b []byte) string {
	if len(b) > 40 {
		return hex.EncodeToString(b[:40]) + ".."
	}
	return hex.EncodeToString(b)
}

// someRecords are ordinary ones and those at the edges: none of bytes, zeros,
// such as are frames or their beginnings themselves, lengths at which another
// byte of the number begins, and the longest.
func someRecords() [][]byte {
	l := [][]byte{
		nil, {}, {0}, {0xff}, []byte("one"), []byte("123456789"), []byte("gr\u00fc\u00df"),
		make([]byte, 4), make([]byte, head), bytes.Repeat([]byte{0xff}, 32),
		framed(nil), framed([]byte("in a frame")), framed([]byte("torn"))[:13], num(longest),
	}
	for n := range 40 {
		l = append(l, made(n))
	}
	return append(l, made(255), made(256), make([]byte, 1000), made(longest-1), made(longest), make([]byte, longest))
}

func tooLong() [][]byte {
	return [][]byte{make([]byte, longest+1), made(longest + 1), made(longest + 2), made(1 << 17), make([]byte, 1<<20)}
}

func someLists() [][][]byte {
	return [][][]byte{
		nil, {}, {nil}, {{}}, {nil, {}, nil}, {{0}}, {[]byte("one")},
		{[]byte("one"), {}, []byte("three")}, {{}, []byte("two"), {}, {}}, {[]byte("b"), []byte("a"), []byte("b")},
		{made(longest), {}, made(longest), []byte("end")}, someRecords(), make([][]byte, 300),
	}
}

// shortLists are the ones whose every byte can be turned in each way.
func shortLists() [][][]byte {
	return slices.DeleteFunc(someLists(), func(l [][]byte) bool { return len(framesOf(l)) > 200 })
}

// tails stand behind frames and are none: torn and spoilt ones among them.
func tails() [][]byte {
	whole := framed([]byte("tail"))
	return [][]byte{
		nil, {0}, {1, 2, 3}, make([]byte, 11), make([]byte, 12), make([]byte, 100), bytes.Repeat([]byte{0xff}, 40),
		whole[:1], whole[:4], whole[:11], whole[:12], whole[:15], append(slices.Clone(whole[:15]), 'L'),
		framed(made(longest + 1)),
	}
}

// noFrames begin with none.
func noFrames() [][]byte {
	zero, four := num(0), num(4)
	rec := []byte("abcd")
	l := [][]byte{
		join(zero, zero, zero),                         // the sum of four zeros isn't 0
		join(zero, num(sum(zero)), num(1)),             // the sum of nothing isn't 1
		join(zero, zero, num(sum(zero))),               // its sums in the wrong order
		join(num(sum(zero)), zero, zero),               // and ahead of the number
		join(four, num(sum(four)), rec),                // without the record's sum
		join(four, num(sum(rec)), rec),                 // without the number's
		join(four, num(sum(four)), num(sum(rec))),      // without the record
		join(four, num(sum(rec)), num(sum(four)), rec), // swapped
		join(four, num(sum(rec)), num(sum(rec)), rec),
		join(four, num(sum(four)), num(sum(four)), rec),
		join(four, num(^sum(four)), num(sum(rec)), rec),
		join(four, num(sum(four)), num(^sum(rec)), rec),
		join(four, num(sum(four)), num(sum(join(four, rec))), rec), // a sum of the number too
		join(four, num(sum(join(four, rec))), num(sum(rec)), rec),
		join([]byte{4, 0, 0, 0}, num(sum(four)), num(sum(rec)), rec), // the lowest byte first
		join(four, binary.LittleEndian.AppendUint32(nil, sum(four)), num(sum(rec)), rec),
		join(four, num(sum(four)), binary.LittleEndian.AppendUint32(nil, sum(rec)), rec),
		join(four, num(crc32.ChecksumIEEE(four)), num(crc32.ChecksumIEEE(rec)), rec), // another polynomial
		join([]byte{9}, framed(rec)),
	}
	// Lengths that are more than all bytes, with their right sum.
	for _, n := range []uint32{1, 5, 255, longest, longest + 1, 1 << 24, 1<<31 - 1, 1 << 31, 1<<32 - 1, 1<<32 - 4, 1<<32 - head} {
		l = append(l, join(num(n), num(sum(num(n))), num(0)), join(num(n), num(sum(num(n))), num(sum(rec)), rec))
	}
	// Frames that are whole, and right, but too long.
	for _, rec := range tooLong() {
		l = append(l, framed(rec), append(framed(rec), framed(nil)...))
	}
	return slices.DeleteFunc(l, func(b []byte) bool { _, n := scanned(b); return n > 0 })
}

// agrees holds Scan and Cut against the words of the chapter.
func agrees(t *testing.T, b []byte) {
	t.Helper()
	want, used := scanned(b)
	if l, n := frame.Scan(b); n != used || !same(l, want) {
		t.Fatalf("Scan(%s) = %d records, %d, want %d, %d", short(b), len(l), n, len(want), used)
	}
	rec, rest, ok := frame.Cut(b)
	if len(want) == 0 {
		if len(rec) != 0 || len(rest) != 0 || ok {
			t.Fatalf("Cut(%s) = %s, %s, %v, want nothing", short(b), short(rec), short(rest), ok)
		}
		return
	}
	if !ok || !bytes.Equal(rec, want[0]) || !bytes.Equal(rest, b[head+len(rec):]) {
		t.Fatalf("Cut(%s) = %s, %d bytes, %v", short(b), short(rec), len(rest), ok)
	}
}

// P6.1

// Frames that were made apart from the program.
func TestPutByTheLetter(t *testing.T) {
	for rec, want := range map[string]string{
		"":          "00000000 48674bc7 00000000",
		"a":         "00000001 ba0cc8c4 c1d04330 61",
		"123456789": "00000009 30d5900b e3069283 313233343536373839",
	} {
		b, err := hex.DecodeString(strings.ReplaceAll(want, " ", ""))
		if err != nil {
			t.Fatal(err)
		}
		if got := frame.Put([]byte(rec)); !bytes.Equal(got, b) {
			t.Errorf("Put(%q) = %x, want %s", rec, got, want)
		}
	}
	zeros := num(sum(make([]byte, 4)))
	if b := frame.Put(nil); !bytes.Equal(b, join(make([]byte, 4), zeros, make([]byte, 4))) {
		t.Errorf("Put of nothing = %x", b)
	}
}

func TestPut(t *testing.T) {
	for _, rec := range someRecords() {
		if b := frame.Put(rec); !bytes.Equal(b, framed(rec)) {
			t.Errorf("Put of %d bytes = %s, want %s", len(rec), short(b), short(framed(rec)))
		}
	}
	for n := range 1025 {
		if b := frame.Put(made(n)); !bytes.Equal(b, framed(made(n))) {
			t.Fatalf("Put of %d bytes = %s", n, short(b))
		}
	}
}

// Each single byte, and each byte at a beginning.
func TestPutEveryByte(t *testing.T) {
	for c := range 256 {
		for _, rec := range [][]byte{{byte(c)}, {byte(c), 'x', 'y'}, {0, 0, byte(c)}} {
			if b := frame.Put(rec); !bytes.Equal(b, framed(rec)) {
				t.Errorf("Put(%x) = %x, want %x", rec, b, framed(rec))
			}
		}
	}
}

func TestPutOfTooLong(t *testing.T) {
	if b := frame.Put(make([]byte, longest)); len(b) != head+longest {
		t.Errorf("Put of the longest has %d bytes", len(b))
	}
	for _, rec := range tooLong() {
		if b := frame.Put(rec); len(b) != 0 {
			t.Errorf("Put of %d bytes has %d", len(rec), len(b))
		}
	}
}

func TestAll(t *testing.T) {
	for i, l := range someLists() {
		if b := frame.All(l); !bytes.Equal(b, framesOf(l)) {
			t.Errorf("All of list %d = %s, want %s", i, short(b), short(framesOf(l)))
		}
	}
	if b := frame.All([][]byte{nil, []byte("a"), {}}); !bytes.Equal(b, join(framed(nil), framed([]byte("a")), framed(nil))) {
		t.Errorf("%x", b)
	}
}

// A record that is too long has no frame; the others have theirs.
func TestAllWithTooLong(t *testing.T) {
	one, two := []byte("one"), []byte("two")
	for _, long := range tooLong() {
		for _, c := range []struct{ l, want [][]byte }{
			{[][]byte{long}, nil},
			{[][]byte{long, long}, nil},
			{[][]byte{long, one, two}, [][]byte{one, two}},
			{[][]byte{one, long, two}, [][]byte{one, two}},
			{[][]byte{one, two, long}, [][]byte{one, two}},
		} {
			if b := frame.All(c.l); !bytes.Equal(b, framesOf(c.want)) {
				t.Errorf("%d records, one of them of %d bytes: %s", len(c.l), len(long), short(b))
			}
		}
	}
}

// P6.2

func TestCut(t *testing.T) {
	for _, rec := range someRecords() {
		for _, tail := range append(tails(), framed([]byte("next")), framed(nil)) {
			got, rest, ok := frame.Cut(join(framed(rec), tail))
			if !bytes.Equal(got, rec) || !bytes.Equal(rest, tail) || !ok {
				t.Errorf("record of %d bytes ahead of %s: %d, %s, %v", len(rec), short(tail), len(got), short(rest), ok)
			}
		}
	}
}

func TestCutOfNoFrame(t *testing.T) {
	l := append(noFrames(), tails()...)
	if len(l) < 50 {
		t.Fatal(len(l))
	}
	for _, b := range l {
		if rec, rest, ok := frame.Cut(b); len(rec) != 0 || len(rest) != 0 || ok {
			t.Errorf("Cut(%s) = %s, %s, %v", short(b), short(rec), short(rest), ok)
		}
		if l, n := frame.Scan(b); len(l) != 0 || n != 0 {
			t.Errorf("Scan(%s) = %d records, %d", short(b), len(l), n)
		}
	}
}

func TestScan(t *testing.T) {
	for i, l := range someLists() {
		b := framesOf(l)
		for _, tail := range append(tails(), noFrames()...) {
			if got, n := frame.Scan(join(b, tail)); !same(got, l) || n != len(b) {
				t.Errorf("list %d ahead of %s: %d records, %d, want %d, %d", i, short(tail), len(got), n, len(l), len(b))
			}
		}
	}
}

// What stands behind the first that is none isn't scanned, right as it is.
func TestScanEndsAtTheFirst(t *testing.T) {
	ahead, behind := framesOf([][]byte{[]byte("one"), {}}), framed([]byte("behind"))
	for _, gap := range append(noFrames(), tails()...) {
		if len(gap) > 0 {
			agrees(t, join(gap, behind))
			agrees(t, join(ahead, gap, behind))
			if l, n := frame.Scan(join(ahead, gap, behind)); len(l) != 2 || n != len(ahead) {
				t.Errorf("behind %s: %d records, %d", short(gap), len(l), n)
			}
		}
	}
}

// The longest is scanned, whole and alone; one byte more, with its right sums,
// isn't.
func TestScanAroundTheLongest(t *testing.T) {
	for _, n := range []int{longest - 1, longest, longest + 1, longest + 2} {
		b := join(framed([]byte("one")), framed(made(n)), framed([]byte("three")))
		l, used := frame.Scan(b)
		if n <= longest {
			if len(l) != 3 || used != len(b) {
				t.Errorf("%d bytes: %d records, %d", n, len(l), used)
			}
		} else if len(l) != 1 || used != head+3 {
			t.Errorf("%d bytes: %d records, %d", n, len(l), used)
		}
		agrees(t, b)
	}
}

// Scan is what Cut cuts off, till it cuts nothing.
func TestScanIsCutAgainAndAgain(t *testing.T) {
	for _, l := range someLists() {
		for _, tail := range tails() {
			b := join(framesOf(l), tail)
			var cut [][]byte
			left := b
			for rec, rest, ok := frame.Cut(left); ok; rec, rest, ok = frame.Cut(left) {
				cut, left = append(cut, rec), rest
			}
			if got, n := frame.Scan(b); !same(got, cut) || n != len(b)-len(left) {
				t.Fatalf("%s: %d records, %d; cut: %d, %d", short(b), len(got), n, len(cut), len(b)-len(left))
			}
		}
	}
}

// A copy of the rest for each frame would take minutes here.
func TestManyFramesEnd(t *testing.T) {
	const many = 1 << 19
	b := frame.All(make([][]byte, many))
	if len(b) != head*many {
		t.Fatal(len(b))
	}
	if l, n := frame.Scan(append(b, 7)); len(l) != many || n != len(b) {
		t.Error(len(l), n)
	}
}

// P6.3

func TestPutIsScannedAsItWas(t *testing.T) {
	for i, l := range someLists() {
		b := frame.All(l)
		if got, n := frame.Scan(b); !same(got, l) || n != len(b) {
			t.Errorf("list %d: %d records, %d, want %d, %d", i, len(got), n, len(l), len(b))
		}
		if again := frame.All(copied(l)); !bytes.Equal(again, b) {
			t.Errorf("list %d is put otherwise again", i)
		}
	}
	for _, rec := range someRecords() {
		got, rest, ok := frame.Cut(frame.Put(rec))
		if !bytes.Equal(got, rec) || len(rest) != 0 || !ok {
			t.Errorf("record of %d bytes: %d, %d, %v", len(rec), len(got), len(rest), ok)
		}
	}
}

// ends are where each frame of the list ends.
func ends(l [][]byte) []int {
	var at []int
	sum := 0
	for _, rec := range l {
		sum += head + len(rec)
		at = append(at, sum)
	}
	return at
}

// wholeAhead is how many frames of the list end at n or ahead of it, and where.
func wholeAhead(l [][]byte, n int) (int, int) {
	many, end := 0, 0
	for _, at := range ends(l) {
		if at <= n {
			many, end = many+1, at
		}
	}
	return many, end
}

func TestOfABeginningABeginning(t *testing.T) {
	for i, l := range someLists() {
		b := frame.All(l)
		step := 1 + len(b)/1000
		lengths := ends(l)
		for _, at := range ends(l) {
			lengths = append(lengths, at-1, min(at+1, len(b)), min(at+11, len(b)), min(at+12, len(b)))
		}
		for n := 0; n <= len(b); n += step {
			lengths = append(lengths, n)
		}
		for _, n := range lengths {
			many, end := wholeAhead(l, n)
			if got, used := frame.Scan(b[:n]); !same(got, l[:many]) || used != end {
				t.Fatalf("list %d, first %d bytes: %d records, %d, want %d, %d", i, n, len(got), used, many, end)
			}
		}
	}
}

// expectTurned turns b's byte at that place: what ends ahead of it is scanned,
// and it, and all behind it, isn't.
func expectTurned(t *testing.T, l [][]byte, b []byte, at int, by byte) {
	t.Helper()
	many, end := wholeAhead(l, at)
	b[at] ^= by
	if got, used := frame.Scan(b); !same(got, l[:many]) || used != end {
		t.Fatalf("byte %d turned by %x: %d records, %d, want %d, %d", at, by, len(got), used, many, end)
	}
	if rec, rest, ok := frame.Cut(b[end:]); len(rec) != 0 || len(rest) != 0 || ok {
		t.Fatalf("byte %d turned by %x: %s is cut off", at, by, short(rec))
	}
	b[at] ^= by
}

func TestEveryTurn(t *testing.T) {
	lists := shortLists()
	if len(lists) < 9 {
		t.Fatal(len(lists))
	}
	for _, l := range lists {
		b := frame.All(l)
		for at := range b {
			for by := 1; by < 256; by++ {
				expectTurned(t, l, b, at, byte(by))
			}
		}
	}
}

// Each other length in a frame's place for it: one that is shorter, and one that
// reaches into the frames behind it.
func TestTurnedLengths(t *testing.T) {
	l := [][]byte{[]byte("a"), make([]byte, 300), framed(made(20)), {}, made(9)}
	b := frame.All(l)
	for i, start := 0, 0; i < len(l); i++ {
		for n := range longest + 1 {
			turned := slices.Clone(b[start:min(len(b), start+400)])
			copy(turned, num(uint32(n)))
			if n == len(l[i]) {
				continue
			}
			if rec, rest, ok := frame.Cut(turned); len(rec) != 0 || len(rest) != 0 || ok {
				t.Fatalf("record %d with length %d: %s is cut off", i, n, short(rec))
			}
		}
		start += head + len(l[i])
	}
}

func TestTurnsOfTheLongest(t *testing.T) {
	l := [][]byte{[]byte("one"), made(longest), []byte("three")}
	b := frame.All(l)
	for at := 0; at < len(b); at += 1 + at/20 {
		for _, by := range []byte{1, 0x10, 0x80, 0xff} {
			expectTurned(t, l, b, at, by)
			expectTurned(t, l, b, len(b)-1-at, by)
		}
	}
}

// Heads of two kinds of bytes, with nothing and with something behind them.
func TestWhateverHeads(t *testing.T) {
	for i := range 1 << 12 {
		b := make([]byte, 12)
		for at := range b {
			b[at] = byte(i>>at&1) * 0xff
		}
		agrees(t, b)
		agrees(t, append(b, "abc"...))
	}
}

func TestWhateverBytes(t *testing.T) {
	r := rand.New(rand.NewSource(6))
	for range 20000 {
		var b []byte
		for range r.Intn(5) {
			piece := make([]byte, r.Intn(20))
			r.Read(piece)
			if r.Intn(4) > 0 {
				piece = framed(piece)
			}
			if r.Intn(4) == 0 {
				piece = piece[:r.Intn(len(piece)+1)]
			}
			b = append(b, piece...)
		}
		agrees(t, b)
	}
}

// The made-up bytes are scanned as they are, and put as records too, of which
// one byte is turned.
func FuzzScan(f *testing.F) {
	for _, l := range shortLists() {
		f.Add(framesOf(l), 0, byte(0))
		f.Add(framesOf(l), 3, byte(1))
	}
	for _, b := range tails() {
		f.Add(b, 5, byte(0x80))
	}
	f.Fuzz(func(t *testing.T, b []byte, at int, by byte) {
		agrees(t, b)
		if len(b) > longest {
			return
		}
		l := [][]byte{b, nil, b}
		all := frame.All(l)
		agrees(t, join(all, b))
		if at >= 0 && by != 0 {
			expectTurned(t, l, all, at%len(all), by)
		}
	})
}

// P6.4

func fill(b []byte) {
	for i := range b[:cap(b)] {
		b[:cap(b)][i] = 99
	}
}

// spare is the same records, each with memory behind it that isn't its own.
func spare(l [][]byte) (tight, wide [][]byte) {
	for _, rec := range l {
		room := append(slices.Clone(rec), make([]byte, 2*head)...)
		tight, wide = append(tight, room[:len(rec)]), append(wide, room)
	}
	return tight, wide
}

func TestPutsStay(t *testing.T) {
	for _, rec := range append(someRecords(), tooLong()...) {
		tight, wide := spare([][]byte{rec})
		want := copied(wide)
		first, second := frame.Put(tight[0]), frame.Put(tight[0])
		before := slices.Clone(second)
		fill(first)
		fill(append(first, 1, 2, 3))
		if !same(wide, want) || !bytes.Equal(second, before) {
			t.Fatalf("record of %d bytes: an answer of Put shares memory", len(rec))
		}
		fill(wide[0])
		if !bytes.Equal(second, before) {
			t.Fatalf("record of %d bytes: Put answered what was handed in", len(rec))
		}
	}
}

func TestAllStays(t *testing.T) {
	for i, l := range append(someLists(), tooLong()) {
		tight, wide := spare(l)
		want := copied(wide)
		first, second := frame.All(tight), frame.All(tight)
		before := slices.Clone(second)
		fill(first)
		fill(append(first, 1, 2, 3))
		if !same(wide, want) || !same(tight, l) || !bytes.Equal(second, before) {
			t.Fatalf("list %d: an answer of All shares memory", i)
		}
		for _, rec := range wide {
			fill(rec)
		}
		if !bytes.Equal(second, before) {
			t.Fatalf("list %d: All answered what was handed in", i)
		}
	}
}

// handedIn are bytes that are cut and scanned.
func handedIn() [][]byte {
	var l [][]byte
	for _, recs := range shortLists() {
		for _, tail := range tails() {
			l = append(l, join(framesOf(recs), tail))
		}
	}
	return append(l, noFrames()...)
}

func TestCutIsNewMemory(t *testing.T) {
	for _, b := range handedIn() {
		tight, wide := spare([][]byte{b})
		want := copied(wide)
		rec, rest, ok := frame.Cut(tight[0])
		recWas, restWas := slices.Clone(rec), slices.Clone(rest)
		fill(rec)
		fill(append(rec, 1, 2, 3))
		if !bytes.Equal(rest, restWas) || !same(wide, want) {
			t.Fatalf("Cut(%s): the record shares memory", short(b))
		}
		fill(rest)
		fill(append(rest, 1, 2, 3))
		if !same(wide, want) {
			t.Fatalf("Cut(%s): what is left shares memory", short(b))
		}
		again, left, okAgain := frame.Cut(tight[0])
		fill(wide[0])
		if !bytes.Equal(again, recWas) || !bytes.Equal(left, restWas) || okAgain != ok {
			t.Fatalf("Cut(%s) is otherwise again", short(b))
		}
	}
}

func TestScanIsNewMemory(t *testing.T) {
	for _, b := range handedIn() {
		tight, wide := spare([][]byte{b})
		want := copied(wide)
		l, n := frame.Scan(tight[0])
		was := copied(l)
		for i := range l {
			rest := copied(l[i+1:])
			fill(l[i])
			fill(append(l[i], 1, 2, 3))
			if !same(l[i+1:], rest) || !same(wide, want) {
				t.Fatalf("Scan(%s): record %d shares memory", short(b), i)
			}
		}
		for i := len(l) - 1; i >= 0; i-- {
			l[i] = append(l[i][:0], "other"...)
		}
		again, m := frame.Scan(tight[0])
		fill(wide[0])
		if !same(again, was) || m != n {
			t.Fatalf("Scan(%s) is otherwise again", short(b))
		}
	}
}
