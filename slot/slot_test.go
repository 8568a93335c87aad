package slot_test

import (
	"bytes"
	"encoding/binary"
	"encoding/hex"
	"fmt"
	"math"
	"math/rand"
	"strings"
	"testing"

	"shardlog/api"
	"shardlog/slot"
)

const (
	mostSlot   = 63
	mostBallot = 1<<31 - 1
	mostBytes  = 520
	mostNum    = 1<<32 - 1
)

// The words of the chapter once more, by the Go library alone.

func isBallot(b int) bool { return 1 <= b && b <= mostBallot }

func isRight(v api.Vote) bool {
	if v.Slot < 0 || v.Slot > mostSlot || len(v.Bytes) > mostBytes {
		return false
	}
	return isBallot(v.Ballot) && isBallot(v.Origin) && v.Origin <= v.Ballot
}

func num(n int) []byte { return binary.BigEndian.AppendUint32(nil, uint32(n)) }

func join(parts ...[]byte) []byte { return bytes.Join(parts, nil) }

// spelt is a vote's record, of one that isn't right too, with whatever number in the
// place of Full.
func spelt(v api.Vote, full int) []byte {
	return join(num(2), num(v.Slot), num(v.Ballot), num(v.Origin), num(full), num(len(v.Bytes)), []byte(v.Bytes))
}

func recordOf(v api.Vote) []byte {
	if v.Full {
		return spelt(v, 1)
	}
	return spelt(v, 0)
}

func promiseOf(b int) []byte { return join(num(1), num(b)) }

// get is what Get answers, told by places alone: nothing is cut off.
func get(rec []byte) (int, api.Vote, api.Errno) {
	at := func(i int) int { return int(binary.BigEndian.Uint32(rec[i:])) }
	switch {
	case len(rec) == 8 && at(0) == 1 && isBallot(at(4)):
		return at(4), api.Vote{}, api.OK
	case len(rec) >= 24 && at(0) == 2 && at(16) <= 1 && at(20) == len(rec)-24:
		v := api.Vote{Slot: at(4), Ballot: at(8), Origin: at(12), Full: at(16) == 1, Bytes: string(rec[24:])}
		if isRight(v) {
			return 0, v, api.OK
		}
	}
	return 0, api.Vote{}, api.ErrForm
}

// next is what Next answers: all above are looked at, one by one.
func next(b, me int) int {
	for n := b + 1; n <= mostBallot; n++ {
		if n%8 == me {
			return n
		}
	}
	return 0
}

func of(n int) string { return strings.Repeat("n", n) }

// say is a vote in a message: the longest bytes would fill the screen.
func say(v api.Vote) string {
	return fmt.Sprintf("(slot %d ballot %d origin %d full %v, %d bytes %.20q)", v.Slot, v.Ballot, v.Origin, v.Full, len(v.Bytes), v.Bytes)
}

func short(b []byte) string {
	if len(b) > 60 {
		return fmt.Sprintf("%x.. (%d bytes)", b[:60], len(b))
	}
	return hex.EncodeToString(b)
}

// checkPut holds Right and Put against the chapter's words, and reads what was put.
func checkPut(t *testing.T, v api.Vote) {
	t.Helper()
	right := isRight(v)
	if got := slot.Right(v); got != right {
		t.Errorf("Right%s = %v", say(v), got)
	}
	rec, e := slot.Put(v)
	if !right {
		if len(rec) != 0 || e != api.ErrArg {
			t.Errorf("Put%s = %s, %d", say(v), short(rec), e)
		}
		return
	}
	if want := recordOf(v); !bytes.Equal(rec, want) || e != api.OK {
		t.Errorf("Put%s = %s, %d, want %s", say(v), short(rec), e, short(want))
	}
	if b, w, e := slot.Get(rec); b != 0 || w != v || e != api.OK {
		t.Errorf("Get of the record of %s = %d, %s, %d", say(v), b, say(w), e)
	}
}

// checkPromise does so with a promise.
func checkPromise(t *testing.T, b int) {
	t.Helper()
	rec, e := slot.Promise(b)
	if !isBallot(b) {
		if len(rec) != 0 || e != api.ErrArg {
			t.Errorf("Promise(%d) = %s, %d", b, short(rec), e)
		}
		return
	}
	if want := promiseOf(b); !bytes.Equal(rec, want) || e != api.OK {
		t.Errorf("Promise(%d) = %s, %d, want %s", b, short(rec), e, short(want))
	}
	if c, v, e := slot.Get(rec); c != b || v != (api.Vote{}) || e != api.OK {
		t.Errorf("Get of the promise of %d = %d, %s, %d", b, c, say(v), e)
	}
}

// checkGet holds Get against the chapter's words, and puts what was read.
func checkGet(t *testing.T, rec []byte) {
	t.Helper()
	wantB, wantV, wantE := get(rec)
	b, v, e := slot.Get(rec)
	if b != wantB || v != wantV || e != wantE {
		t.Errorf("Get of %s = %d, %s, %d, want %d, %s, %d", short(rec), b, say(v), e, wantB, say(wantV), wantE)
	}
	if e != api.OK {
		return
	}
	again, f := slot.Promise(b)
	if b == 0 {
		again, f = slot.Put(v)
	}
	if !bytes.Equal(again, rec) || f != api.OK {
		t.Errorf("%s was read as %d, %s, and is written as %s, %d", short(rec), b, say(v), short(again), f)
	}
}

// wrongForm tells that the bytes must not be read, whatever the words above say.
func wrongForm(t *testing.T, rec []byte) {
	t.Helper()
	if b, v, e := slot.Get(rec); b != 0 || v != (api.Vote{}) || e != api.ErrForm {
		t.Errorf("Get of %s = %d, %s, %d", short(rec), b, say(v), e)
	}
	checkGet(t, rec)
}

func slots() []int {
	return []int{math.MinInt, -1 << 32, -64, -1, 0, 1, 2, 31, 62, 63, 64, 65, 127, 128, 256, 1<<31 - 1, 1 << 31, 1 << 32, 1<<32 + 1, math.MaxInt}
}

func ballots() []int {
	return []int{math.MinInt, math.MinInt + 1, -1<<32 + 1, -mostBallot, -8, -1, 0, 1, 2, 6, 7, 8, 9, 15, 16, 255, 256, 258, 1 << 16, 1 << 24,
		mostBallot - 8, mostBallot - 1, mostBallot, mostBallot + 1, mostBallot + 2, mostNum, mostNum + 1, 1<<32 + 1, 1<<32 + 9, math.MaxInt - 1, math.MaxInt}
}

// texts also have such as have few letters, but too many bytes.
func texts() []string {
	return []string{"", "v", "\x00", "\x00\x00\x00\x00", "\xff\xfe", "gr\u00fc\u00df", of(255), of(256), of(511), of(512), of(513), of(519), of(520), of(521), of(522), of(1040),
		strings.Repeat("\u00e9", 260), strings.Repeat("\u00e9", 261), string(make([]byte, 520)), string(make([]byte, 521)), of(1 << 16)}
}

// ones are right votes, with all that there is.
func ones() []api.Vote {
	return []api.Vote{
		{Slot: 63, Ballot: 300, Origin: 2, Bytes: "ab"},
		{Slot: 5, Ballot: 70000, Origin: 300, Full: true, Bytes: "value"},
		{Ballot: 1, Origin: 1},
		{Ballot: 1, Origin: 1, Full: true},
		{Slot: 63, Ballot: mostBallot, Origin: mostBallot, Full: true, Bytes: of(520)},
		{Slot: 1, Ballot: 2, Origin: 1, Bytes: string(make([]byte, 520))},
		{Slot: 2, Ballot: 2, Origin: 2, Bytes: "\x00\x00\x00\x01\x00\x00\x00\x02"},
	}
}

// some are many votes, right and not: those above, changed in one thing.
func some() []api.Vote {
	l := ones()
	for _, v := range ones() {
		for _, n := range slots() {
			w := v
			w.Slot = n
			l = append(l, w)
		}
		for _, n := range ballots() {
			w, x, y := v, v, v
			w.Ballot, x.Origin = n, n
			y.Ballot, y.Origin = n, n
			l = append(l, w, x, y)
		}
		for _, s := range texts() {
			w := v
			w.Bytes = s
			l = append(l, w)
		}
	}
	return l
}

// records are those of all kinds, short ones and the longest.
func records() [][]byte {
	l := [][]byte{promiseOf(1), promiseOf(258), promiseOf(0x01020304), promiseOf(mostBallot)}
	for _, v := range ones() {
		l = append(l, recordOf(v))
	}
	return l
}

// P17.1

func TestPromiseByTheLetter(t *testing.T) {
	for b, want := range map[int]string{
		1: "0000000100000001", 2: "0000000100000002", 6: "0000000100000006", 7: "0000000100000007", 8: "0000000100000008",
		255: "00000001000000ff", 258: "0000000100000102", 1 << 16: "0000000100010000", 0x7bcdef01: "000000017bcdef01",
		mostBallot - 1: "000000017ffffffe", mostBallot: "000000017fffffff",
	} {
		rec, e := slot.Promise(b)
		if hex.EncodeToString(rec) != want || e != api.OK {
			t.Errorf("Promise(%d) = %x, %d, want %s", b, rec, e, want)
		}
	}
	for _, b := range []int{0, -1, -8, math.MinInt, mostBallot + 1, mostNum, mostNum + 1, 1<<32 + 1, math.MaxInt} {
		if rec, e := slot.Promise(b); len(rec) != 0 || e != api.ErrArg {
			t.Errorf("Promise(%d) = %x, %d", b, rec, e)
		}
	}
}

func TestPromise(t *testing.T) {
	for _, b := range ballots() {
		checkPromise(t, b)
	}
	for b := -70000; b <= 70000; b++ {
		checkPromise(t, b)
	}
	for i := range 63 {
		for d := -2; d <= 2; d++ {
			checkPromise(t, 1<<i+d)
			checkPromise(t, -1<<i+d)
		}
	}
}

func TestPutByTheLetter(t *testing.T) {
	for _, c := range []struct {
		v    api.Vote
		want string
	}{
		{api.Vote{Slot: 63, Ballot: 300, Origin: 2, Bytes: "ab"}, "00000002" + "0000003f" + "0000012c" + "00000002" + "00000000" + "000000026162"},
		{api.Vote{Slot: 63, Ballot: 300, Origin: 2, Full: true, Bytes: "ab"}, "00000002" + "0000003f" + "0000012c" + "00000002" + "00000001" + "000000026162"},
		{api.Vote{Ballot: 1, Origin: 1}, "00000002" + "00000000" + "00000001" + "00000001" + "00000000" + "00000000"},
		{api.Vote{Ballot: 1, Origin: 1, Full: true, Bytes: "\x00"}, "00000002" + "00000000" + "00000001" + "00000001" + "00000001" + "0000000100"},
		{api.Vote{Slot: 7, Ballot: mostBallot, Origin: mostBallot, Bytes: "\xff\xfe"}, "00000002" + "00000007" + "7fffffff" + "7fffffff" + "00000000" + "00000002fffe"},
		{api.Vote{Slot: 7, Ballot: mostBallot, Origin: 0x01020304, Bytes: "x"}, "00000002" + "00000007" + "7fffffff" + "01020304" + "00000000" + "0000000178"},
		{api.Vote{Slot: 1, Ballot: 9, Origin: 8, Bytes: of(260)}, "00000002" + "00000001" + "00000009" + "00000008" + "00000000" + "00000104" + strings.Repeat("6e", 260)},
		{api.Vote{Slot: 1, Ballot: 9, Origin: 8, Bytes: of(520)}, "00000002" + "00000001" + "00000009" + "00000008" + "00000000" + "00000208" + strings.Repeat("6e", 520)},
	} {
		rec, e := slot.Put(c.v)
		if hex.EncodeToString(rec) != c.want || e != api.OK || !slot.Right(c.v) {
			t.Errorf("Put%s = %s, %d, want %s", say(c.v), short(rec), e, c.want)
		}
		want, _ := hex.DecodeString(c.want)
		if b, v, e := slot.Get(want); b != 0 || v != c.v || e != api.OK {
			t.Errorf("Get of %s = %d, %s, %d, want %s", short(want), b, say(v), e, say(c.v))
		}
	}
}

// Wrong in one thing alone each, but for the first ones.
func TestWrongByTheLetter(t *testing.T) {
	for _, v := range []api.Vote{
		{}, {Slot: 1}, {Bytes: "x"}, {Full: true},
		{Slot: -1, Ballot: 2, Origin: 1}, {Slot: 64, Ballot: 2, Origin: 1}, {Slot: math.MinInt, Ballot: 2, Origin: 1}, {Slot: 1 << 32, Ballot: 2, Origin: 1},
		{Ballot: 2}, {Ballot: 2, Origin: -1}, {Ballot: 2, Origin: 3}, {Ballot: 2, Origin: 1<<32 + 1}, {Ballot: 1, Origin: 2}, {Ballot: mostBallot - 1, Origin: mostBallot},
		{Origin: 1}, {Ballot: -1, Origin: 1}, {Ballot: -1, Origin: -1}, {Ballot: -1, Origin: -2}, {Ballot: mostBallot + 1, Origin: 1}, {Ballot: mostBallot + 1, Origin: mostBallot},
		{Ballot: mostBallot + 1, Origin: mostBallot + 1}, {Ballot: 1<<32 + 1, Origin: 1}, {Ballot: math.MaxInt, Origin: math.MaxInt}, {Ballot: math.MaxInt, Origin: 1},
		{Ballot: 2, Origin: 1, Bytes: of(521)}, {Ballot: 2, Origin: 1, Bytes: strings.Repeat("\u00e9", 261)}, {Ballot: 2, Origin: 1, Full: true, Bytes: of(521)},
	} {
		rec, e := slot.Put(v)
		if slot.Right(v) || len(rec) != 0 || e != api.ErrArg {
			t.Errorf("Put%s = %s, %d; Right %v", say(v), short(rec), e, slot.Right(v))
		}
	}
}

func TestPut(t *testing.T) {
	for _, v := range some() {
		checkPut(t, v)
	}
}

// All things at their edges together.
func TestPutOfAllTogether(t *testing.T) {
	few := []string{"", "v", of(512), of(520), of(521)}
	for _, n := range slots() {
		for _, ballot := range ballots() {
			for _, origin := range ballots() {
				for _, s := range few {
					for _, full := range []bool{false, true} {
						checkPut(t, api.Vote{Slot: n, Ballot: ballot, Origin: origin, Full: full, Bytes: s})
					}
				}
			}
		}
	}
}

// All slots, all ballots with all Origins around each other, and bytes of all lengths.
func TestPutOfAll(t *testing.T) {
	for n := -130; n <= 260; n++ {
		checkPut(t, api.Vote{Slot: n, Ballot: 17, Origin: 9, Bytes: "ab"})
	}
	for ballot := -20; ballot <= 60; ballot++ {
		for origin := -20; origin <= 60; origin++ {
			checkPut(t, api.Vote{Slot: 3, Ballot: ballot, Origin: origin, Bytes: "ab"})
			checkPut(t, api.Vote{Slot: 3, Ballot: mostBallot - 40 + ballot, Origin: mostBallot - 40 + origin, Full: true})
		}
	}
	for n := range 1100 {
		checkPut(t, api.Vote{Slot: 3, Ballot: 17, Origin: 9, Bytes: of(n)})
		checkPut(t, api.Vote{Slot: 3, Ballot: 17, Origin: 9, Full: true, Bytes: string(make([]byte, n))})
	}
}

// P17.2

func TestGetByTheLetter(t *testing.T) {
	promise := []byte{0, 0, 0, 1, 0, 0, 1, 2}
	if b, v, e := slot.Get(promise); b != 258 || v != (api.Vote{}) || e != api.OK {
		t.Error(b, say(v), e)
	}
	vote := []byte{0, 0, 0, 2, 0, 0, 0, 63, 0, 0, 1, 44, 0, 0, 0, 2, 0, 0, 0, 1, 0, 0, 0, 2, 'a', 'b'}
	if b, v, e := slot.Get(vote); b != 0 || v != (api.Vote{Slot: 63, Ballot: 300, Origin: 2, Full: true, Bytes: "ab"}) || e != api.OK {
		t.Error(b, say(v), e)
	}
	for _, rec := range [][]byte{nil, {}, {0}, {0, 0, 0, 0}, {0, 0, 0, 1}, {0, 0, 0, 2}, {1}, {2}, make([]byte, 8), make([]byte, 24), make([]byte, 1<<16)} {
		wrongForm(t, rec)
	}
	for _, c := range []struct {
		of      []byte
		at, to  int
		instead string
	}{
		{promise, 8, 8, "\x00"}, {promise, 8, 8, "\x00\x00\x00\x00"}, {promise, 0, 0, "\x00"}, {promise, 7, 8, ""}, {promise, 4, 8, ""}, {promise, 0, 4, ""}, // longer and shorter
		{promise, 3, 4, "\x00"}, {promise, 3, 4, "\x02"}, {promise, 3, 4, "\x03"}, {promise, 3, 4, "\x81"}, {promise, 2, 3, "\x01"}, {promise, 1, 2, "\x01"}, {promise, 0, 1, "\x01"}, {promise, 0, 4, "\xff\xff\xff\xff"}, // its kind
		{promise, 4, 8, "\x00\x00\x00\x00"}, {promise, 4, 8, "\x80\x00\x00\x00"}, {promise, 4, 5, "\x80"}, {promise, 4, 8, "\xff\xff\xff\xff"}, // its ballot
		{vote, 26, 26, "\x00"}, {vote, 26, 26, "c"}, {vote, 0, 0, "\x00"}, {vote, 25, 26, ""}, {vote, 20, 26, ""}, {vote, 0, 4, ""}, // longer and shorter
		{vote, 3, 4, "\x00"}, {vote, 3, 4, "\x01"}, {vote, 3, 4, "\x03"}, {vote, 3, 4, "\x82"}, {vote, 2, 3, "\x01"}, {vote, 1, 2, "\x02"}, {vote, 0, 1, "\x02"}, // its kind
		{vote, 7, 8, "\x40"}, {vote, 7, 8, "\xff"}, {vote, 6, 7, "\x01"}, {vote, 4, 5, "\x80"}, {vote, 4, 8, "\xff\xff\xff\xff"}, // Slot
		{vote, 8, 12, "\x00\x00\x00\x00"}, {vote, 8, 12, "\x00\x00\x00\x01"}, {vote, 8, 12, "\x80\x00\x00\x00"}, {vote, 8, 9, "\x80"}, {vote, 8, 12, "\xff\xff\xff\xff"}, // Ballot
		{vote, 12, 16, "\x00\x00\x00\x00"}, {vote, 12, 16, "\x00\x00\x01\x2d"}, {vote, 12, 13, "\x01"}, {vote, 12, 13, "\x80"}, {vote, 12, 16, "\xff\xff\xff\xff"}, // Origin
		{vote, 19, 20, "\x02"}, {vote, 19, 20, "\x03"}, {vote, 19, 20, "\xff"}, {vote, 18, 19, "\x01"}, {vote, 17, 18, "\x01"}, {vote, 16, 17, "\x01"}, {vote, 16, 17, "\x80"}, // Full
		{vote, 23, 24, "\x00"}, {vote, 23, 24, "\x01"}, {vote, 23, 24, "\x03"}, {vote, 22, 23, "\x01"}, {vote, 20, 21, "\x80"}, {vote, 20, 24, "\xff\xff\xff\xff"}, // Bytes
	} {
		wrongForm(t, join(c.of[:c.at], []byte(c.instead), c.of[c.to:]))
	}
}

// What isn't right isn't read, though its bytes are spelt as a right one's.
func TestGetOfWrongOnes(t *testing.T) {
	for _, v := range some() {
		checkGet(t, recordOf(v))
	}
	for _, b := range ballots() {
		checkGet(t, promiseOf(b))
	}
	for n := 521; n < 1100; n++ {
		wrongForm(t, recordOf(api.Vote{Slot: 3, Ballot: 17, Origin: 9, Bytes: of(n)}))
	}
}

// Beginnings and ends of right ones, bytes left out and put in, and more behind and
// ahead.
func TestGetOfParts(t *testing.T) {
	for _, rec := range records() {
		for n := range len(rec) {
			wrongForm(t, rec[:n])
			checkGet(t, rec[n+1:])
			checkGet(t, join(rec[:n], rec[n+1:]))
			checkGet(t, join(rec[:n], []byte{0}, rec[n:]))
		}
		for _, more := range []string{"\x00", "\x01", "\x00\x00\x00\x00", "\xff\xff\xff\xff", "x", string(rec), of(512), of(1 << 16)} {
			wrongForm(t, join(rec, []byte(more)))
			checkGet(t, join([]byte(more), rec))
		}
	}
}

// Each byte of right ones, changed to whatever else.
func TestGetOfChangedBytes(t *testing.T) {
	for _, rec := range records() {
		for at := range rec {
			changed := bytes.Clone(rec)
			for v := range 256 {
				changed[at] = byte(v)
				checkGet(t, changed)
			}
		}
	}
}

// Other numbers in the places of all six, and in those of two at once.
func TestGetOfOtherNumbers(t *testing.T) {
	ns := []int{0, 1, 2, 3, 7, 8, 9, 62, 63, 64, 299, 300, 301, 519, 520, 521, 1 << 16, 1 << 24, 1<<24 + 1, mostBallot, 1 << 31, 1<<31 + 1, 1<<32 - 256, mostNum}
	for _, rec := range records() {
		for at := 0; at+4 <= len(rec) && at < 24; at += 4 {
			for _, n := range ns {
				one := join(rec[:at], num(n), rec[at+4:])
				checkGet(t, one)
				for also := at + 4; also+4 <= len(rec) && also < 24; also += 4 {
					for _, m := range ns {
						checkGet(t, join(one[:also], num(m), one[also+4:]))
					}
				}
			}
		}
	}
}

// Small numbers in all places, with up to three bytes behind.
func TestGetOfShortRecords(t *testing.T) {
	for kind := range 4 {
		for ballot := range 4 {
			for origin := range 4 {
				for full := range 4 {
					for length := range 4 {
						for more := range 4 {
							checkGet(t, join(num(kind), num(62+kind), num(ballot), num(origin), num(full), num(length), make([]byte, more)))
							checkGet(t, join(num(kind), num(ballot), num(origin), num(full), num(length), num(more)))
						}
						checkGet(t, join(num(kind), num(ballot), num(origin), num(full), num(length)))
					}
				}
				checkGet(t, join(num(kind), num(ballot), make([]byte, origin)))
			}
		}
		for n := range 600 {
			checkGet(t, join(num(kind), make([]byte, n)))
			checkGet(t, join(num(kind), bytes.Repeat([]byte{0, 0, 0, 1}, n)))
		}
	}
}

// What stands in the place of Full is 0 or 1.
func TestGetOfOtherFull(t *testing.T) {
	for _, v := range ones() {
		for _, n := range []int{2, 3, 128, 255, 256, 257, 1 << 16, 1 << 24, 1<<24 + 1, 1 << 31, 1<<31 + 1, mostNum} {
			wrongForm(t, spelt(v, n))
		}
	}
}

func FuzzGet(f *testing.F) {
	for _, rec := range records() {
		f.Add(rec)
		f.Add(append(rec, 0))
	}
	f.Add(spelt(ones()[0], 2))
	f.Fuzz(checkGet)
}

// P17.3

func TestOwnerByTheLetter(t *testing.T) {
	for b, want := range map[int]int{
		1: 1, 2: 2, 3: 3, 5: 5, 6: 6, 7: 7, 8: 0, 9: 1, 14: 6, 15: 7, 16: 0, 255: 7, 256: 0, 300: 4, 1000: 0,
		1 << 24: 0, mostBallot - 7: 0, mostBallot - 3: 4, mostBallot - 1: 6, mostBallot: 7,
	} {
		if got := slot.Owner(b); got != want {
			t.Errorf("Owner(%d) = %d, want %d", b, got, want)
		}
	}
}

func TestOwner(t *testing.T) {
	who := 0
	for b := range 70000 {
		if got := slot.Owner(b); b > 0 && got != who {
			t.Errorf("Owner(%d) = %d, want %d", b, got, who)
		}
		if who++; who == 8 {
			who = 0
		}
	}
}

func TestNextByTheLetter(t *testing.T) {
	for _, c := range []struct{ b, me, want int }{
		{0, 3, 3}, {0, 0, 8}, // the chapter's
		{0, 1, 1}, {0, 6, 6}, {1, 1, 9}, {1, 0, 8}, {1, 2, 2}, {2, 1, 9}, {6, 6, 14}, {6, 0, 8}, {7, 0, 8}, {7, 6, 14}, {8, 0, 16}, {8, 1, 9}, {8, 6, 14}, {13, 6, 14}, {14, 5, 21}, {15, 0, 16}, {16, 0, 24},
		{300, 3, 307}, {300, 4, 308}, {300, 5, 301},
		{mostBallot, 0, 0}, {mostBallot, 3, 0}, {mostBallot, 6, 0}, {mostBallot - 1, 6, 0}, {mostBallot - 1, 5, 0}, {mostBallot - 2, 6, mostBallot - 1}, {mostBallot - 2, 5, 0}, {mostBallot - 2, 0, 0},
		{mostBallot - 7, 0, 0}, {mostBallot - 7, 1, mostBallot - 6}, {mostBallot - 7, 6, mostBallot - 1}, {mostBallot - 8, 0, mostBallot - 7}, {mostBallot - 8, 6, mostBallot - 1}, {mostBallot - 9, 6, mostBallot - 1}, {mostBallot - 9, 0, mostBallot - 7},
		{mostBallot - 15, 0, mostBallot - 7}, {mostBallot - 15, 6, mostBallot - 9},
	} {
		if got := slot.Next(c.b, c.me); got != c.want {
			t.Errorf("Next(%d, %d) = %d, want %d", c.b, c.me, got, c.want)
		}
	}
}

// The least and the greatest ballots, and those around where bytes begin.
func TestNext(t *testing.T) {
	check := func(b int) {
		for me := range 7 {
			got, want := slot.Next(b, me), next(b, me)
			if got != want {
				t.Errorf("Next(%d, %d) = %d, want %d", b, me, got, want)
			}
			if got > 0 && (got <= b || got > b+8 || slot.Owner(got) != me) {
				t.Errorf("Next(%d, %d) = %d, which is %d's", b, me, got, slot.Owner(got))
			}
		}
	}
	for b := range 20000 {
		check(b)
		check(mostBallot - b)
	}
	for i := 8; i < 31; i++ {
		for d := -20; d <= 20; d++ {
			check(1<<i + d)
		}
	}
	r := rand.New(rand.NewSource(17))
	for range 20000 {
		check(r.Intn(mostBallot + 1))
	}
}

// Who is no replica has no ballot, and none is above what is no ballot: of these the
// chapter says nothing.
func TestNextOfOthers(t *testing.T) {
	for _, me := range []int{math.MinInt, -8, -1, 7, 8, 9, 63, math.MaxInt} {
		for _, b := range append(ballots(), 0) {
			if got := slot.Next(b, me); got != 0 {
				t.Errorf("Next(%d, %d) = %d", b, me, got)
			}
		}
	}
	for _, b := range ballots() {
		for me := range 7 {
			if got := slot.Next(b, me); b != 0 && !isBallot(b) && got != 0 {
				t.Errorf("Next(%d, %d) = %d", b, me, got)
			}
		}
	}
}

// Each replica's ballots one after the other: no two replicas come to the same one, and
// all but the last one of each round is somebody's.
func TestNextOfEach(t *testing.T) {
	whose := map[int]int{}
	for me := range 7 {
		for b := slot.Next(0, me); b < 8000; b = slot.Next(b, me) {
			if other, ok := whose[b]; ok {
				t.Fatalf("%d is %d's and %d's", b, other, me)
			}
			whose[b] = me
		}
	}
	for b := 1; b < 8000; b++ {
		if me, ok := whose[b]; ok != (b%8 != 7) || ok && me != slot.Owner(b) {
			t.Errorf("%d is %d's: %v", b, me, ok)
		}
	}
}

// P17.4

// madeUp is a right vote, the same each time.
func madeUp(r *rand.Rand) api.Vote {
	b := make([]byte, r.Intn(mostBytes+1))
	r.Read(b)
	v := api.Vote{Slot: r.Intn(64), Ballot: 1 + r.Intn(mostBallot), Full: r.Intn(2) == 1, Bytes: string(b)}
	v.Origin = 1 + r.Intn(v.Ballot)
	return v
}

func TestWrittenAndReadOfMadeUpOnes(t *testing.T) {
	r := rand.New(rand.NewSource(174))
	for range 20000 {
		v := madeUp(r)
		checkPut(t, v)
		checkPromise(t, v.Ballot)
		rec, e := slot.Put(v)
		b, w, f := slot.Get(rec)
		again, g := slot.Put(w)
		if e != api.OK || b != 0 || w != v || f != api.OK || !bytes.Equal(again, rec) || g != api.OK {
			t.Errorf("%s, %d was read as %d, %s, %d, and written again %d", say(v), e, b, say(w), f, g)
		}
		// Some byte of it is another one, and so is what is read, if anything is.
		at := r.Intn(len(rec))
		rec[at] ^= byte(1 + r.Intn(255))
		checkGet(t, rec)
		if _, w, e := slot.Get(rec); e == api.OK && w == v {
			t.Errorf("byte %d of %s changed: the same", at, say(v))
		}
	}
}

// Bytes that were made up, with a kind ahead: what is read of them is written so.
func TestReadAndWrittenOfMadeUpOnes(t *testing.T) {
	r := rand.New(rand.NewSource(175))
	read := 0
	for range 50000 {
		tail := make([]byte, r.Intn(4))
		r.Read(tail)
		rec := join(num(2), num(r.Intn(70)), num(r.Intn(40)), num(r.Intn(20)), num(r.Intn(3)), num(r.Intn(4)), tail)
		if r.Intn(4) == 0 {
			rec = join(num(r.Intn(3)), num(r.Int()), tail[:len(tail)/3])
		}
		checkGet(t, rec)
		if _, _, e := slot.Get(rec); e == api.OK {
			read++
		}
	}
	if read < 2000 {
		t.Errorf("only %d were read", read)
	}
}

// No two that are right share a record, promises among them.
func TestNoTwoAreAlike(t *testing.T) {
	seen := map[string]api.Vote{}
	for _, v := range some() {
		rec, e := slot.Put(v)
		if e != api.OK {
			continue
		}
		if w, ok := seen[string(rec)]; ok && w != v {
			t.Errorf("%s and %s have the same record", say(v), say(w))
		}
		seen[string(rec)] = v
	}
	if len(seen) < 200 {
		t.Errorf("only %d are right", len(seen))
	}
	for b := 1; b < 1000; b++ {
		rec, _ := slot.Promise(b)
		if _, ok := seen[string(rec)]; ok {
			t.Errorf("the promise of %d is there already", b)
		}
		seen[string(rec)] = api.Vote{Ballot: b}
	}
}

// P17.5

// writeOver changes all that can be reached of an answer, to its capacity.
func writeOver(b []byte) {
	b = b[:cap(b)]
	for i := range b {
		b[i] ^= 0xa5
	}
}

func TestWhatIsHandedInStays(t *testing.T) {
	for _, rec := range append(records(), nil, []byte{0, 0, 0, 2}, spelt(ones()[0], 2), append(promiseOf(3), 7), recordOf(api.Vote{Slot: 64, Ballot: 1, Origin: 1, Bytes: "x"})) {
		// Bytes behind the end are the caller's, too.
		room := append(bytes.Clone(rec), "behind"...)
		before := bytes.Clone(room)
		slot.Get(room[:len(rec)])
		if !bytes.Equal(room, before) {
			t.Errorf("Get of %s left %s", short(before[:len(rec)]), short(room))
		}
	}
}

func TestWhatIsReadIsNewMemory(t *testing.T) {
	for _, rec := range records() {
		wantB, wantV, _ := get(rec)
		b, v, e := slot.Get(rec)
		writeOver(rec)
		if b != wantB || v != wantV || e != api.OK {
			t.Errorf("the bytes that were read are others, and so is %d, %s, want %d, %s", b, say(v), wantB, say(wantV))
		}
	}
}

func TestWhatIsWrittenIsNewMemory(t *testing.T) {
	for _, v := range ones() {
		first, _ := slot.Put(v)
		other, _ := slot.Put(v)
		writeOver(first)
		third, _ := slot.Put(v)
		if want := recordOf(v); !bytes.Equal(other, want) || !bytes.Equal(third, want) {
			t.Errorf("Put%s after its answer was written over: %s and %s", say(v), short(other), short(third))
		}
		first, _ = slot.Promise(v.Ballot)
		other, _ = slot.Promise(v.Ballot)
		writeOver(first)
		third, _ = slot.Promise(v.Ballot)
		if want := promiseOf(v.Ballot); !bytes.Equal(other, want) || !bytes.Equal(third, want) {
			t.Errorf("Promise(%d) after its answer was written over: %s and %s", v.Ballot, short(other), short(third))
		}
	}
}

// P1: no call panics, whatever it is given; of what is no ballot, or no replica, Owner
// and Next have no meaning, but end.
func TestAllEnds(t *testing.T) {
	for _, v := range some() {
		slot.Right(v)
		slot.Put(v)
	}
	for _, b := range ballots() {
		slot.Promise(b)
		slot.Owner(b)
		for _, me := range ballots() {
			slot.Next(b, me)
		}
	}
	long := bytes.Repeat([]byte{0, 0, 0, 2}, 1<<20)
	wrongForm(t, long)
	wrongForm(t, long[2:])
	checkPut(t, api.Vote{Ballot: 1, Origin: 1, Bytes: string(long)})
}

// What a call answers hangs on its arguments alone: other calls between change nothing.
func TestAnswersStay(t *testing.T) {
	l := some()
	first := make([][]byte, len(l))
	errs := make([]api.Errno, len(l))
	for i, v := range l {
		first[i], errs[i] = slot.Put(v)
	}
	for i := len(l) - 1; i >= 0; i-- {
		if rec, e := slot.Put(l[i]); !bytes.Equal(rec, first[i]) || e != errs[i] {
			t.Errorf("Put%s was %s, %d, and is %s, %d", say(l[i]), short(first[i]), errs[i], short(rec), e)
		}
	}
}
