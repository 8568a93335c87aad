package log_test

import (
	"bytes"
	"encoding/binary"
	"encoding/hex"
	"fmt"
	"hash/crc32"
	"math"
	"math/rand"
	"slices"
	"strings"
	"testing"

	"shardlog/api"
	"shardlog/disk"
	"shardlog/log"
)

const (
	mostSlot   = 63
	mostBallot = 1<<31 - 1
	mostBytes  = 520
	mostDisk   = 65536
	mostRecord = 65535
)

// The words of the chapter, and of those it builds on, once more, by the Go library
// alone: what a log says is told anew of its bytes at each look.

func num(n int) []byte { return binary.BigEndian.AppendUint32(nil, uint32(n)) }

func join(parts ...[]byte) []byte { return bytes.Join(parts, nil) }

func sum(b []byte) []byte {
	return num(int(crc32.Checksum(b, crc32.MakeTable(crc32.Castagnoli))))
}

func frameOf(rec []byte) []byte { return join(num(len(rec)), sum(num(len(rec))), sum(rec), rec) }

func isBallot(b int) bool { return 1 <= b && b <= mostBallot }

func isRight(v api.Vote) bool {
	if v.Slot < 0 || v.Slot > mostSlot || len(v.Bytes) > mostBytes {
		return false
	}
	return isBallot(v.Ballot) && isBallot(v.Origin) && v.Origin <= v.Ballot
}

func promiseRec(b int) []byte { return join(num(1), num(b)) }

func voteRec(v api.Vote) []byte {
	full := 0
	if v.Full {
		full = 1
	}
	return join(num(2), num(v.Slot), num(v.Ballot), num(v.Origin), num(full), num(len(v.Bytes)), []byte(v.Bytes))
}

func promised(b int) []byte { return frameOf(promiseRec(b)) }

func voted(v api.Vote) []byte { return frameOf(voteRec(v)) }

// entry is a record that was read: a promise's ballot, or a vote.
type entry struct {
	ballot int
	vote   api.Vote
}

func readRec(rec []byte) (entry, bool) {
	at := func(i int) int { return int(binary.BigEndian.Uint32(rec[i:])) }
	switch {
	case len(rec) == 8 && at(0) == 1 && isBallot(at(4)):
		return entry{ballot: at(4)}, true
	case len(rec) >= 24 && at(0) == 2 && at(16) <= 1 && at(20) == len(rec)-24:
		v := api.Vote{Slot: at(4), Ballot: at(8), Origin: at(12), Full: at(16) == 1, Bytes: string(rec[24:])}
		return entry{vote: v}, isRight(v)
	}
	return entry{}, false
}

// scan is the entries at the beginning of the bytes, and where they end.
func scan(b []byte) ([]entry, int) {
	var l []entry
	at := 0
	for at+12 <= len(b) {
		head := b[at : at+12]
		n := int(binary.BigEndian.Uint32(head))
		if n > mostRecord || at+12+n > len(b) || !bytes.Equal(head[4:8], sum(head[:4])) {
			break
		}
		rec := b[at+12 : at+12+n]
		x, ok := readRec(rec)
		if !ok || !bytes.Equal(head[8:], sum(rec)) {
			break
		}
		l, at = append(l, x), at+12+n
	}
	return l, at
}

// says is what a log of these bytes says: each slot asks all entries.
func says(b []byte) (int, []api.Vote) {
	entries, _ := scan(b)
	greatest := 0
	var l []api.Vote
	for i := 0; i <= mostSlot; i++ {
		best := api.Vote{}
		for _, x := range entries {
			greatest = max(greatest, x.ballot, x.vote.Ballot)
			if x.ballot == 0 && x.vote.Slot == i && x.vote.Ballot >= best.Ballot {
				best = x.vote
			}
		}
		if best.Ballot > 0 {
			l = append(l, best)
		}
	}
	return greatest, l
}

// compact is the file that says what these bytes do, and no more.
func compact(b []byte) []byte {
	greatest, l := says(b)
	var c []byte
	if greatest > 0 {
		c = promised(greatest)
	}
	for _, v := range l {
		c = append(c, voted(v)...)
	}
	return c
}

// paper is a file: its bytes, and how many are synced.
type paper struct {
	bytes  []byte
	synced int
}

// model is a disk, on which the log's file is one as any other.
type model struct {
	capacity int
	papers   map[string]paper
}

func (m *model) used() int {
	n := 0
	for _, p := range m.papers {
		n += len(p.bytes)
	}
	return n
}

func (m *model) says() (int, []api.Vote) { return says(m.papers["log"].bytes) }

func (m *model) open() {
	p, ok := m.papers["log"]
	if !ok {
		return
	}
	_, size := scan(p.bytes)
	m.papers["log"] = paper{p.bytes[:size], size}
}

func (m *model) write(b []byte) api.Errno {
	if m.used()+len(b) > m.capacity {
		return api.ErrFull
	}
	all := join(m.papers["log"].bytes, b)
	m.papers["log"] = paper{all, len(all)}
	return api.OK
}

func (m *model) promise(b int) api.Errno {
	if greatest, _ := m.says(); !isBallot(b) || b <= greatest {
		return api.ErrArg
	}
	return m.write(promised(b))
}

func (m *model) vote(v api.Vote) api.Errno {
	if greatest, _ := m.says(); !isRight(v) || v.Ballot < greatest {
		return api.ErrArg
	}
	return m.write(voted(v))
}

func (m *model) compact() api.Errno {
	c := compact(m.papers["log"].bytes)
	if m.used()-len(m.papers["new"].bytes)+len(c) > m.capacity {
		return api.ErrFull
	}
	delete(m.papers, "new")
	m.papers["log"] = paper{c, len(c)}
	return api.OK
}

// tear puts bytes behind the log, as an append that a crash hits, and lets so many of
// them stay; those of other files that aren't synced go or stay as keep says.
func (m *model) tear(torn []byte, keep []int) {
	if m.used()+len(torn) <= m.capacity {
		p := m.papers["log"]
		m.papers["log"] = paper{join(p.bytes, torn), p.synced}
	}
	next := 0
	for _, name := range names(m) {
		p := m.papers[name]
		rest := len(p.bytes) - p.synced
		if rest == 0 {
			continue
		}
		kept := 0
		if next < len(keep) {
			kept = keep[next] % (rest + 1)
		}
		next++
		b := p.bytes[:p.synced+kept]
		m.papers[name] = paper{b, len(b)}
	}
}

func names(m *model) []string {
	var l []string
	for name := range m.papers {
		l = append(l, name)
	}
	slices.Sort(l)
	return l
}

func (m *model) state() string {
	var s strings.Builder
	for _, name := range names(m) {
		p := m.papers[name]
		fmt.Fprintf(&s, "%q %x synced %d; ", name, p.bytes, p.synced)
	}
	return s.String()
}

// state is all that a disk tells of itself, in the same words.
func state(d *disk.Disk) string {
	var s strings.Builder
	for _, name := range d.Names() {
		b, _ := d.Read(name)
		c, _ := d.Synced(name)
		fmt.Fprintf(&s, "%q %x synced %d; ", name, b, len(c))
	}
	return s.String()
}

// made is a disk with these files, and a model of it. A text with a bar has all up to
// there synced.
func made(t *testing.T, capacity int, files map[string]string) (*disk.Disk, *model) {
	t.Helper()
	d, m := disk.New(capacity), &model{capacity: capacity, papers: map[string]paper{}}
	for name, text := range files {
		ahead, behind, _ := strings.Cut(text, "|")
		if d.Append(name, []byte(ahead)) != api.OK || d.Sync(name) != api.OK || d.Append(name, []byte(behind)) != api.OK {
			t.Fatalf("%q isn't made", name)
		}
		m.papers[name] = paper{[]byte(ahead + behind), len(ahead)}
	}
	return d, m
}

// laid is a disk whose file "log" has these bytes, of which the first ones, so many, are
// synced.
func laid(t *testing.T, capacity int, b []byte, synced int) (*disk.Disk, *model) {
	t.Helper()
	d := disk.New(capacity)
	if d.Append("log", b[:synced]) != api.OK || d.Sync("log") != api.OK || d.Append("log", b[synced:]) != api.OK {
		t.Fatalf("%d bytes aren't laid", len(b))
	}
	return d, &model{capacity: capacity, papers: map[string]paper{"log": {bytes.Clone(b), synced}}}
}

func of(n int) string { return strings.Repeat("n", n) }

func short(s string) string {
	if len(s) > 600 {
		return fmt.Sprintf("%s.. (%d bytes)", s[:600], len(s))
	}
	return s
}

func say(l []api.Vote) string { return short(fmt.Sprintf("%+v", l)) }

func expect(t *testing.T, what string, got, want api.Errno) {
	t.Helper()
	if got != want {
		t.Errorf("%s: %d, want %d", what, got, want)
	}
}

// agree holds all that the log and its disk tell against the model.
func agree(t *testing.T, what string, l *log.Log, d *disk.Disk, m *model) {
	t.Helper()
	greatest, votes := m.says()
	if got := l.Promised(); got != greatest {
		t.Errorf("%s: promised %d, want %d", what, got, greatest)
	}
	if got := l.Votes(); !slices.Equal(got, votes) {
		t.Errorf("%s: votes %s, want %s", what, say(got), say(votes))
	}
	if got, want := l.Size(), len(m.papers["log"].bytes); got != want {
		t.Errorf("%s: size %d, want %d", what, got, want)
	}
	if got, want := state(d), m.state(); got != want {
		t.Errorf("%s: the disk has %s, want %s", what, short(got), short(want))
	}
}

// opens opens the disk's log, and holds it against the model, and what Read tells of the
// bytes that it had.
func opens(t *testing.T, what string, d *disk.Disk, m *model) *log.Log {
	t.Helper()
	before, _ := d.Read("log")
	l := log.Open(d)
	m.open()
	agree(t, what, l, d, m)
	greatest, votes := m.says()
	if n, got := log.Read(before); n != greatest || !slices.Equal(got, votes) {
		t.Errorf("%s: read %d, %s, want %d, %s", what, n, say(got), greatest, say(votes))
	}
	return l
}

// expectSays holds what a log says against what is written here, whatever the words
// above are.
func expectSays(t *testing.T, what string, l *log.Log, greatest int, votes ...api.Vote) {
	t.Helper()
	if got := l.Votes(); l.Promised() != greatest || !slices.Equal(got, votes) {
		t.Errorf("%s: %d, %s, want %d, %s", what, l.Promised(), say(got), greatest, say(votes))
	}
}

func expectRead(t *testing.T, what string, b []byte, greatest int, votes ...api.Vote) {
	t.Helper()
	if n, got := log.Read(b); n != greatest || !slices.Equal(got, votes) {
		t.Errorf("%s: %d, %s, want %d, %s", what, n, say(got), greatest, say(votes))
	}
}

func vote(slot, ballot int, s string) api.Vote {
	return api.Vote{Slot: slot, Ballot: ballot, Origin: 1, Bytes: s}
}

// file is what a log may have: all that is promised and voted stands in order.
func file() []byte {
	return join(promised(3), voted(vote(2, 3, "a")), voted(vote(0, 5, "")), promised(11),
		voted(api.Vote{Slot: 2, Ballot: 11, Origin: 11, Full: true, Bytes: "full"}), voted(vote(63, 12, "\x00\xff")), promised(20))
}

// files are those that were written, and those that only bytes can have.
func files() [][]byte {
	return [][]byte{
		nil, promised(1), voted(vote(0, 1, "")), file(), join(file(), file()),
		join(voted(vote(1, 9, "greater")), voted(vote(1, 8, "less")), promised(4), promised(7)),
		join(voted(vote(1, 9, "first")), voted(vote(2, 9, "other")), voted(vote(1, 9, "last"))),
		join(promised(mostBallot), voted(vote(0, mostBallot, of(mostBytes))), voted(vote(63, mostBallot, ""))),
		everySlot(of(20)),
	}
}

// everySlot votes at each slot, the greatest first, and at each of them twice.
func everySlot(s string) []byte {
	var b []byte
	for i := mostSlot; i >= 0; i-- {
		b = append(b, voted(vote(i, 7, s))...)
	}
	for i := range mostSlot + 1 {
		b = append(b, voted(vote(i, 7+i%2, fmt.Sprint(i)))...)
	}
	return b
}

// noRecords are frames' records that are no log's.
func noRecords() [][]byte {
	right := voteRec(vote(5, 100, "ab"))
	return [][]byte{
		nil, {0}, []byte("torn"), num(1), num(2), promiseRec(0), promiseRec(1 << 31), promiseRec(1<<32 - 1), append(promiseRec(9), 0), promiseRec(9)[:7],
		join(num(0), num(9)), join(num(3), num(9)), make([]byte, 8), make([]byte, 24),
		right[:len(right)-1], append(bytes.Clone(right), 0), voteRec(vote(64, 100, "")), voteRec(vote(-1, 100, "")), voteRec(vote(5, 0, "")), voteRec(vote(5, 1<<31, "")),
		voteRec(api.Vote{Slot: 5, Ballot: 100, Origin: 101}), voteRec(api.Vote{Slot: 5, Ballot: 100}), voteRec(vote(5, 100, of(mostBytes+1))),
		join(num(2), num(5), num(100), num(1), num(2), num(0)), make([]byte, 20000), make([]byte, mostRecord),
	}
}

// P18.1

func TestReadByTheLetter(t *testing.T) {
	promise, _ := hex.DecodeString("00000008" + "c2be1308" + "46a035a6" + "00000001" + "00000102")
	vote, _ := hex.DecodeString("0000001a" + "33dba490" + "9edf56af" + "00000002" + "0000003f" + "0000012c" + "00000002" + "00000001" + "00000002" + "6162")
	if !bytes.Equal(promise, promised(258)) || !bytes.Equal(vote, voted(api.Vote{Slot: 63, Ballot: 300, Origin: 2, Full: true, Bytes: "ab"})) {
		t.Fatalf("%x %x", promised(258), voted(api.Vote{Slot: 63, Ballot: 300, Origin: 2, Full: true, Bytes: "ab"}))
	}
	v := api.Vote{Slot: 63, Ballot: 300, Origin: 2, Full: true, Bytes: "ab"}
	expectRead(t, "nothing", nil, 0)
	expectRead(t, "nothing", []byte{}, 0)
	expectRead(t, "a promise", promise, 258)
	expectRead(t, "a vote", vote, 300, v)
	expectRead(t, "both", join(promise, vote), 300, v)
	expectRead(t, "both, the vote first", join(vote, promise), 300, v)
	expectRead(t, "a part of a promise", promise[:19], 0)
	expectRead(t, "a part of a vote", join(promise, vote[:37]), 258)
	expectRead(t, "a byte between", join(promise, []byte{0}, vote), 258)
	expectRead(t, "a byte ahead", join([]byte{0}, promise, vote), 0)
	expectRead(t, "more behind", join(promise, vote, []byte("torn")), 300, v)
}

func TestReadTakesTheGreatestAndLast(t *testing.T) {
	a, b, c := vote(4, 8, "a"), vote(4, 9, "b"), vote(4, 9, "c")
	x, y := vote(3, 2, "x"), vote(5, 1, "y")
	expectRead(t, "rising", join(voted(a), voted(b)), 9, b)
	expectRead(t, "falling", join(voted(b), voted(a)), 9, b)
	expectRead(t, "like ones", join(voted(b), voted(c)), 9, c)
	expectRead(t, "like ones, turned round", join(voted(c), voted(b)), 9, b)
	expectRead(t, "like ones, and a lesser one behind", join(voted(b), voted(c), voted(a)), 9, c)
	expectRead(t, "a lesser one between like ones", join(voted(b), voted(a), voted(c)), 9, c)
	expectRead(t, "thrice", join(voted(a), voted(b), voted(c)), 9, c)
	expectRead(t, "other slots", join(voted(y), voted(b), voted(x)), 9, x, b, y)
	expectRead(t, "a lesser promise behind", join(voted(b), promised(3)), 9, b)
	expectRead(t, "a greater promise behind", join(voted(b), promised(10)), 10, b)
	expectRead(t, "a greater promise ahead", join(promised(10), voted(b)), 10, b)
	expectRead(t, "promises that fall", join(promised(10), promised(7), promised(8)), 10)
	expectRead(t, "all things of a vote count", join(voted(vote(4, 9, "b")), voted(api.Vote{Slot: 4, Ballot: 9, Origin: 7, Full: true})), 9, api.Vote{Slot: 4, Ballot: 9, Origin: 7, Full: true})
	expectRead(t, "a greater Origin doesn't", join(voted(api.Vote{Slot: 4, Ballot: 9, Origin: 7}), voted(vote(4, 9, "b"))), 9, b)
}

func TestOpenOfNoFile(t *testing.T) {
	for _, capacity := range []int{-1, 0, 1, 400, mostDisk} {
		d := disk.New(capacity)
		l := log.Open(d)
		expectSays(t, "an empty disk", l, 0)
		if len(d.Names()) != 0 || l.Size() != 0 || len(l.Votes()) != 0 {
			t.Errorf("capacity %d: %q, %d, %s", capacity, d.Names(), l.Size(), say(l.Votes()))
		}
	}
	d, m := made(t, 2000, map[string]string{"new": string(file()) + "|" + string(file()), "a": "x|yz", "lo": string(file()), "logs": "|l", "Log": string(file()), "log.": ""})
	opens(t, "other files", d, m)
}

func TestOpenOfAnEmptyFile(t *testing.T) {
	for _, text := range []string{"", "|torn", "torn|", string(promised(9)[:19]), "|" + string(promised(9)[:19])} {
		d, m := made(t, 400, map[string]string{"log": text})
		l := opens(t, "nothing whole", d, m)
		expectSays(t, "nothing whole", l, 0)
		if !slices.Equal(d.Names(), []string{"log"}) || d.Used() != 0 {
			t.Errorf("%q: %q, %d", text, d.Names(), d.Used())
		}
	}
}

// Other files stay as they are, what isn't synced of them, too.
func TestOpenLeavesOtherFiles(t *testing.T) {
	torn := string(file()) + "|" + string(promised(99)) + "torn"
	d, m := made(t, 1000, map[string]string{"log": torn, "new": "stale|more", "a": "|x", "b": "y|", "log2": torn})
	l := opens(t, "among others", d, m)
	expectSays(t, "among others", l, 99, vote(0, 5, ""), api.Vote{Slot: 2, Ballot: 11, Origin: 11, Full: true, Bytes: "full"}, vote(63, 12, "\x00\xff"))
}

// What is whole and isn't synced is synced: a crash leaves it.
func TestOpenSyncs(t *testing.T) {
	for _, b := range files() {
		for _, torn := range []string{"", "t", "torn and more"} {
			all := append(bytes.Clone(b), torn...)
			for _, synced := range []int{0, min(5, len(all)), len(b) / 2, len(b), len(all)} {
				d, m := laid(t, mostDisk, all, synced)
				opens(t, fmt.Sprintf("%d of %d bytes synced", synced, len(all)), d, m)
				d.Crash(nil)
				if got, want := state(d), m.state(); got != want {
					t.Errorf("behind a crash: %s, want %s", short(got), short(want))
				}
				opens(t, "behind a crash", d, m)
			}
		}
	}
}

// All beginnings of files: what is whole is read, the rest is trimmed.
func TestOpenOfBeginnings(t *testing.T) {
	for _, b := range files() {
		step := 1 + len(b)/700
		for n := 0; n <= len(b); n += step {
			d, m := laid(t, mostDisk, b[:n], n/2)
			l := opens(t, fmt.Sprintf("the first %d of %d bytes", n, len(b)), d, m)
			_, size := scan(b[:n])
			if l.Size() != size || d.Used() != size {
				t.Errorf("the first %d of %d bytes: %d, %d, want %d", n, len(b), l.Size(), d.Used(), size)
			}
		}
	}
}

// Each byte turned, in each of its bits: its frame, and all behind it, are gone.
func TestOpenOfTurnedBytes(t *testing.T) {
	b := file()
	_, whole := scan(b)
	for at := range b {
		_, size := scan(b[:at])
		for _, by := range []byte{1, 2, 4, 8, 16, 32, 64, 128, 255} {
			turned := bytes.Clone(b)
			turned[at] ^= by
			d, m := laid(t, 1000, turned, len(b))
			l := opens(t, fmt.Sprintf("byte %d turned by %d", at, by), d, m)
			if size >= whole || l.Size() != size {
				t.Errorf("byte %d turned by %d: %d bytes are left of %d, want %d", at, by, l.Size(), whole, size)
			}
		}
	}
}

// Whole frames whose record is none end the log, whatever stands behind them.
func TestOpenOfNoRecords(t *testing.T) {
	ahead, behind := join(promised(3), voted(vote(1, 4, "ahead"))), join(promised(50), voted(vote(2, 60, "behind")), file())
	for i, rec := range noRecords() {
		for _, b := range [][]byte{join(frameOf(rec), behind), join(ahead, frameOf(rec), behind), join(ahead, frameOf(rec), frameOf(rec), ahead), join(ahead, frameOf(rec))} {
			b = b[:min(len(b), mostDisk)]
			d, m := laid(t, mostDisk, b, len(b))
			l := opens(t, fmt.Sprintf("record %d", i), d, m)
			switch l.Size() {
			case 0:
				expectSays(t, "nothing ahead", l, 0)
			case len(ahead):
				expectSays(t, "what is ahead", l, 4, vote(1, 4, "ahead"))
			default:
				t.Errorf("record %d: %d bytes are left", i, l.Size())
			}
		}
	}
}

// A frame that says it is longer than one may be, with the right sums.
func TestReadOfTooLongFrames(t *testing.T) {
	rec := append(voteRec(vote(2, 60, "")), make([]byte, mostRecord)...)
	for _, n := range []int{mostRecord - 1, mostRecord, mostRecord + 1, len(rec)} {
		b := join(promised(3), frameOf(rec[:n]), promised(9))
		expectRead(t, fmt.Sprintf("a frame of %d bytes", n), b, 3)
	}
}

// Read takes more bytes than a disk has: the longest votes, over and over.
func TestReadOfManyBytes(t *testing.T) {
	var b []byte
	var want []api.Vote
	for round := range 40 {
		want = nil
		for i := range mostSlot + 1 {
			v := vote((i*5)%(mostSlot+1), 1+round, of(mostBytes-i))
			b = append(b, voted(v)...)
			want = append(want, v)
		}
	}
	slices.SortFunc(want, func(x, y api.Vote) int { return x.Slot - y.Slot })
	expectRead(t, fmt.Sprintf("%d bytes", len(b)), b, 40, want...)
	expectRead(t, "and zeros", append(b, make([]byte, 1<<20)...), 40, want...)
	expectRead(t, "zeros", make([]byte, 1<<20), 0)
}

func TestVotesRise(t *testing.T) {
	d, m := laid(t, mostDisk, everySlot("first"), 0)
	l := opens(t, "every slot", d, m)
	votes := l.Votes()
	if len(votes) != mostSlot+1 {
		t.Fatalf("%d votes", len(votes))
	}
	for i, v := range votes {
		if v != vote(i, 7+i%2, fmt.Sprint(i)) {
			t.Errorf("%d: %+v", i, v)
		}
	}
}

// Size is the file's, with what others put there.
func TestSize(t *testing.T) {
	d, m := laid(t, 1000, file(), 0)
	l := opens(t, "a file", d, m)
	size := l.Size()
	if size != len(file()) || d.Used() != size {
		t.Error(size, len(file()))
	}
	d.Append("other", []byte("other"))
	if l.Size() != size {
		t.Error(l.Size(), size)
	}
	d.Append("log", []byte("torn"))
	if l.Size() != size+4 {
		t.Error(l.Size(), size+4)
	}
}

// P18.2

func ballots() []int {
	return []int{math.MinInt, -1 << 32, -mostBallot, -8, -1, 0, 1, 2, 3, 4, 5, 6, 7, 8, 9, 255, 256, 1 << 16, mostBallot - 1, mostBallot, mostBallot + 1, 1<<32 - 1, 1 << 32, 1<<32 + 1, 1<<32 + 9, math.MaxInt}
}

// starts are logs with whatever as the greatest ballot: of a promise, or of a vote.
func starts() [][]byte {
	l := [][]byte{nil}
	for _, b := range ballots() {
		if isBallot(b) {
			l = append(l, promised(b), voted(vote(5, b, "v")), join(promised(b), voted(vote(5, 1, "v"))), join(voted(vote(5, b, "v")), promised(1)))
		}
	}
	return l
}

func TestPromise(t *testing.T) {
	for _, b := range starts() {
		for _, n := range ballots() {
			d, m := laid(t, 1000, b, len(b))
			l := opens(t, "a start", d, m)
			greatest, votes := l.Promised(), l.Votes()
			what := fmt.Sprintf("Promise(%d) above %d", n, greatest)
			e := l.Promise(n)
			expect(t, what, e, m.promise(n))
			agree(t, what, l, d, m)
			if n > greatest && n <= mostBallot {
				expect(t, what, e, api.OK)
				expectSays(t, what, l, n, votes...)
			} else {
				expect(t, what, e, api.ErrArg)
				expectSays(t, what, l, greatest, votes...)
			}
			opens(t, what+", opened", d, m)
		}
	}
}

func TestVote(t *testing.T) {
	for _, b := range starts() {
		for _, n := range ballots() {
			for _, v := range []api.Vote{vote(5, n, "new"), vote(6, n, ""), {Slot: 0, Ballot: n, Origin: n, Full: true, Bytes: of(mostBytes)}} {
				d, m := laid(t, 1000, b, len(b))
				l := opens(t, "a start", d, m)
				greatest := l.Promised()
				what := fmt.Sprintf("a vote of %d above %d", n, greatest)
				e := l.Vote(v)
				expect(t, what, e, m.vote(v))
				agree(t, what, l, d, m)
				if n >= greatest && isBallot(n) {
					expect(t, what, e, api.OK)
					if got := l.Votes(); l.Promised() != n || !slices.Contains(got, v) {
						t.Errorf("%s: %d, %s", what, l.Promised(), say(got))
					}
				} else {
					expect(t, what, e, api.ErrArg)
				}
				opens(t, what+", opened", d, m)
			}
		}
	}
}

// Votes that aren't right, each for one thing alone, and those that only just are.
func TestVoteOfWrongOnes(t *testing.T) {
	right := api.Vote{Slot: 3, Ballot: 9, Origin: 4, Bytes: "ab"}
	d, m := made(t, 3000, nil)
	l := opens(t, "empty", d, m)
	for _, slot := range []int{math.MinInt, -64, -1, 64, 65, 1 << 31, 1 << 32, 1<<32 + 3, math.MaxInt, 0, 1, 62, 63} {
		v := right
		v.Slot = slot
		expect(t, fmt.Sprintf("slot %d", slot), l.Vote(v), m.vote(v))
	}
	for _, origin := range append(ballots(), 10) {
		v := right
		v.Origin = origin
		expect(t, fmt.Sprintf("origin %d", origin), l.Vote(v), m.vote(v))
	}
	for _, n := range []int{521, 522, 1000, 1 << 17, 0, 1, 519, 520} {
		v := right
		v.Bytes = of(n)
		expect(t, fmt.Sprintf("%d bytes", n), l.Vote(v), m.vote(v))
	}
	agree(t, "behind them", l, d, m)
	if len(l.Votes()) != 5 || l.Promised() != 9 {
		t.Error(l.Promised(), say(l.Votes()))
	}
	expect(t, "no vote at all", l.Vote(api.Vote{}), api.ErrArg)
	opens(t, "opened", d, m)
}

// What is promised and voted stands in the file one behind the other, each synced at
// once, and says what it says.
func TestAppended(t *testing.T) {
	d := disk.New(400)
	l := log.Open(d)
	want := []byte{}
	lies := func(what string, e api.Errno) {
		t.Helper()
		expect(t, what, e, api.OK)
		b, _ := d.Read("log")
		c, _ := d.Synced("log")
		if !bytes.Equal(b, want) || !bytes.Equal(c, want) || l.Size() != len(want) || !slices.Equal(d.Names(), []string{"log"}) {
			t.Errorf("%s: %x, %x synced, %d bytes, %q, want %x", what, b, c, l.Size(), d.Names(), want)
		}
	}
	a, b, c := vote(2, 5, "a"), vote(1, 8, "b"), api.Vote{Slot: 2, Ballot: 8, Origin: 3, Full: true, Bytes: "c"}
	want = append(want, promised(5)...)
	lies("Promise(5)", l.Promise(5))
	expectSays(t, "Promise(5)", l, 5)
	want = append(want, voted(a)...)
	lies("a", l.Vote(a))
	expectSays(t, "a", l, 5, a)
	want = append(want, voted(b)...)
	lies("b", l.Vote(b))
	expectSays(t, "b", l, 8, b, a)
	want = append(want, voted(c)...)
	lies("c", l.Vote(c))
	expectSays(t, "c", l, 8, b, c)
	want = append(want, voted(c)...)
	lies("c again", l.Vote(c))
	expectSays(t, "c again", l, 8, b, c)
	want = append(want, voted(vote(2, 8, "d"))...)
	lies("another one of c's ballot", l.Vote(vote(2, 8, "d")))
	expectSays(t, "another one of c's ballot", l, 8, b, vote(2, 8, "d"))
	want = append(want, promised(mostBallot)...)
	lies("the greatest", l.Promise(mostBallot))
	expectSays(t, "the greatest", l, mostBallot, b, vote(2, 8, "d"))
	for _, n := range []int{5, 8, mostBallot - 1, mostBallot, mostBallot + 1} {
		expect(t, fmt.Sprint("no more: ", n), l.Promise(n), api.ErrArg)
	}
	expect(t, "nothing below", l.Vote(vote(3, mostBallot-1, "")), api.ErrArg)
	want = append(want, voted(vote(3, mostBallot, ""))...)
	lies("a vote in it", l.Vote(vote(3, mostBallot, "")))
}

// A byte less than is needed is too few, and nothing is changed then.
func TestFull(t *testing.T) {
	for _, b := range files() {
		greatest, _ := says(b)
		if greatest == mostBallot {
			continue
		}
		for _, x := range []struct {
			what string
			rec  []byte
			do   func(*log.Log) api.Errno
		}{
			{"a promise", promised(greatest + 1), func(l *log.Log) api.Errno { return l.Promise(greatest + 1) }},
			{"a vote", voted(vote(9, greatest+1, "abc")), func(l *log.Log) api.Errno { return l.Vote(vote(9, greatest+1, "abc")) }},
			{"a long vote", voted(vote(9, greatest+1, of(mostBytes))), func(l *log.Log) api.Errno { return l.Vote(vote(9, greatest+1, of(mostBytes))) }},
		} {
			for _, less := range []int{1, len(x.rec), 0, -1} {
				room := len(b) + len(x.rec) - less
				d, m := laid(t, room+7, b, len(b))
				d.Append("a", []byte("others "))
				m.papers["a"] = paper{[]byte("others "), 0}
				if b == nil { // so that there is no file ahead
					d.Delete("log")
					delete(m.papers, "log")
				}
				l := opens(t, "ahead", d, m)
				before := state(d)
				e := x.do(l)
				if less <= 0 {
					expect(t, x.what+" for which there is room", e, api.OK)
					after, _ := d.Synced("log")
					if !bytes.Equal(after, join(b, x.rec)) {
						t.Errorf("%s: %x, want %x", x.what, after, join(b, x.rec))
					}
					continue
				}
				expect(t, x.what+" for which there is no room", e, api.ErrFull)
				if state(d) != before {
					t.Errorf("%s: %s, was %s", x.what, short(state(d)), short(before))
				}
				agree(t, x.what, l, d, m)
			}
		}
	}
}

// Of a full disk, what is wrong is told first.
func TestWrongIsToldAheadOfFull(t *testing.T) {
	b := promised(5)
	d, m := laid(t, len(b), b, len(b))
	l := opens(t, "full", d, m)
	for _, n := range ballots() {
		want := api.ErrFull
		if n <= 5 || n > mostBallot {
			want = api.ErrArg
		}
		expect(t, fmt.Sprintf("Promise(%d)", n), l.Promise(n), want)
		if n == 5 {
			want = api.ErrFull
		}
		expect(t, fmt.Sprintf("a vote of %d", n), l.Vote(vote(1, n, "")), want)
	}
	expect(t, "a slot too many", l.Vote(vote(64, 9, "")), api.ErrArg)
	expect(t, "a byte too many", l.Vote(vote(6, 9, of(521))), api.ErrArg)
	agree(t, "nothing is changed", l, d, m)
}

// When there is room again, a full log goes on.
func TestGoesOnWhenThereIsRoom(t *testing.T) {
	b := file()
	d, m := made(t, len(b)+25, map[string]string{"log": string(b), "a": "0123456789"})
	l := opens(t, "full", d, m)
	expect(t, "no room", l.Promise(30), api.ErrFull)
	d.Delete("a")
	delete(m.papers, "a")
	expect(t, "room", l.Promise(30), m.promise(30))
	agree(t, "room", l, d, m)
	expect(t, "the same again", l.Promise(30), api.ErrArg)
	opens(t, "opened", d, m)
}

// P18.3

func TestCompactByTheLetter(t *testing.T) {
	d := disk.New(400)
	l := log.Open(d)
	a, b, c := vote(2, 5, "a"), vote(1, 8, "b"), vote(2, 8, "c")
	for _, e := range []api.Errno{l.Promise(5), l.Vote(a), l.Vote(b), l.Vote(c), l.Promise(12)} {
		expect(t, "ahead", e, api.OK)
	}
	expect(t, "Compact", l.Compact(), api.OK)
	want := join(promised(12), voted(b), voted(c))
	all, _ := d.Read("log")
	sure, _ := d.Synced("log")
	if !bytes.Equal(all, want) || !bytes.Equal(sure, want) || l.Size() != len(want) || len(want) != 20+2*37 {
		t.Errorf("%x, %x synced, %d bytes, want %x", all, sure, l.Size(), want)
	}
	if !slices.Equal(d.Names(), []string{"log"}) {
		t.Errorf("%q", d.Names())
	}
	expectSays(t, "behind it", l, 12, b, c)
	expectSays(t, "opened", log.Open(d), 12, b, c)
}

func TestCompact(t *testing.T) {
	for i, b := range files() {
		what := fmt.Sprintf("file %d", i)
		d, m := laid(t, mostDisk, b, 0)
		l := opens(t, what, d, m)
		greatest, votes := l.Promised(), l.Votes()
		expect(t, what, l.Compact(), m.compact())
		agree(t, what, l, d, m)
		expectSays(t, what, l, greatest, votes...)
		expect(t, what+" again", l.Compact(), api.OK)
		agree(t, what+" again", l, d, m)
		d.Crash(nil)
		l = opens(t, what+" opened", d, m)
		expectSays(t, what+" opened", l, greatest, votes...)
		expect(t, what+" once more", l.Compact(), api.OK)
		agree(t, what+" once more", l, d, m)
	}
}

// Of a log of votes alone the promise is one more record: the file may become longer.
func TestCompactOfVotesAlone(t *testing.T) {
	d := disk.New(400)
	l := log.Open(d)
	expect(t, "a vote", l.Vote(vote(7, 9, "v")), api.OK)
	expect(t, "Compact", l.Compact(), api.OK)
	if b, _ := d.Read("log"); !bytes.Equal(b, join(promised(9), voted(vote(7, 9, "v")))) {
		t.Errorf("%x", b)
	}
	expectSays(t, "behind it", log.Open(d), 9, vote(7, 9, "v"))
}

// The file becomes no frames, by the way of all: it is there then.
func TestCompactOfNothing(t *testing.T) {
	for _, capacity := range []int{0, 1, 100} {
		d := disk.New(capacity)
		l := log.Open(d)
		expect(t, "Compact", l.Compact(), api.OK)
		if b, e := d.Read("log"); len(b) != 0 || e != api.OK || !slices.Equal(d.Names(), []string{"log"}) || l.Size() != 0 {
			t.Errorf("%x, %d, %q", b, e, d.Names())
		}
		expectSays(t, "nothing", l, 0)
		expectSays(t, "nothing", log.Open(d), 0)
	}
}

// Both files are there for a time, beside all others: with a byte less there is no room,
// and nothing is changed.
func TestCompactNeedsRoomForBoth(t *testing.T) {
	for i, b := range files() {
		for _, others := range []string{"", "others"} {
			for _, more := range []int{-len(compact(b)), -1, 0, 1} {
				what := fmt.Sprintf("file %d, %q, %d", i, others, more)
				d, m := laid(t, len(b)+len(compact(b))+len(others)+max(more, -len(compact(b))), b, len(b))
				if others != "" {
					d.Append("a", []byte(others))
					m.papers["a"] = paper{[]byte(others), 0}
				}
				l := opens(t, what, d, m)
				before := state(d)
				e := l.Compact()
				expect(t, what, e, m.compact())
				agree(t, what, l, d, m)
				if more >= 0 || len(compact(b)) == 0 {
					expect(t, what, e, api.OK)
					continue
				}
				expect(t, what, e, api.ErrFull)
				if state(d) != before {
					t.Errorf("%s: %s, was %s", what, short(state(d)), short(before))
				}
			}
		}
	}
}

// A file "new" that is there already is none of the log's: it goes, and takes no room;
// without room it stays as it is, what isn't synced, too.
func TestCompactOverAStaleFile(t *testing.T) {
	b := file()
	c := len(compact(b))
	for _, stale := range []string{"", "|", "stale|", "|stale", "sta|le", string(promised(999)) + "|", "|" + of(c), of(300) + "|" + of(20)} {
		n := len(strings.Replace(stale, "|", "", 1))
		for _, room := range []int{mostDisk, len(b) + n + c, len(b) + max(n, c) + 1, len(b) + max(n, c), len(b) + max(n, c-1)} {
			what := fmt.Sprintf("%d stale bytes, a disk of %d", n, room)
			d, m := made(t, room, map[string]string{"log": string(b), "new": stale})
			l := opens(t, what, d, m)
			before := state(d)
			e := l.Compact()
			expect(t, what, e, m.compact())
			agree(t, what, l, d, m)
			if room < len(b)+c {
				expect(t, what, e, api.ErrFull)
				if state(d) != before {
					t.Errorf("%s: %s, was %s", what, state(d), before)
				}
			} else {
				expect(t, what, e, api.OK)
				if !slices.Equal(d.Names(), []string{"log"}) {
					t.Errorf("%s: %q", what, d.Names())
				}
			}
			opens(t, what+", opened", d, m)
		}
	}
}

func TestCompactLeavesOtherFiles(t *testing.T) {
	d, m := made(t, 1000, map[string]string{"log": string(file()), "a": "x|yz", "b": "", "lo": "|l", "log.new": "n|", "news": "s|s"})
	l := opens(t, "among others", d, m)
	expect(t, "Compact", l.Compact(), m.compact())
	agree(t, "among others", l, d, m)
}

// A compacted log is one as any other: it goes on, in the same file.
func TestCompactedGoesOn(t *testing.T) {
	d, m := laid(t, 1000, file(), 0)
	l := opens(t, "a file", d, m)
	expect(t, "Compact", l.Compact(), m.compact())
	expect(t, "nothing below", l.Promise(20), m.promise(20))
	expect(t, "a vote below", l.Vote(vote(4, 19, "")), m.vote(vote(4, 19, "")))
	expect(t, "a vote", l.Vote(vote(4, 20, "v")), m.vote(vote(4, 20, "v")))
	expect(t, "a promise", l.Promise(33), m.promise(33))
	agree(t, "goes on", l, d, m)
	expect(t, "Compact", l.Compact(), m.compact())
	agree(t, "compacted again", l, d, m)
	opens(t, "opened", d, m)
}

// Where a log is full, to compact it gives room.
func TestCompactGivesRoom(t *testing.T) {
	d, m := made(t, 2000, nil)
	l := opens(t, "empty", d, m)
	full := 0
	for n := 1; n <= 2000; n++ {
		v := vote(n%3, n, of(n%50))
		e := l.Vote(v)
		expect(t, fmt.Sprint("vote ", n), e, m.vote(v))
		if d.Used() > 1500 {
			full++
			expect(t, "Compact", l.Compact(), m.compact())
		}
	}
	agree(t, "behind all", l, d, m)
	if l.Promised() != 2000 || len(l.Votes()) != 3 || full < 50 {
		t.Error(l.Promised(), say(l.Votes()), full)
	}
}

// P18.4

// chance is a log under whatever steps, and its model.
type chance struct {
	t *testing.T
	r *rand.Rand
	d *disk.Disk
	m *model
	l *log.Log
}

func (c *chance) ballot() int {
	switch c.r.Intn(12) {
	case 0:
		return c.r.Intn(3) - 1
	case 1:
		return mostBallot - 1 + c.r.Intn(4)
	}
	greatest, _ := c.m.says()
	return greatest - 2 + c.r.Intn(6)
}

func (c *chance) vote() api.Vote {
	b := make([]byte, c.r.Intn(30))
	c.r.Read(b)
	v := api.Vote{Slot: c.r.Intn(5), Ballot: c.ballot(), Full: c.r.Intn(2) == 0, Bytes: string(b)}
	v.Origin = max(1, v.Ballot-c.r.Intn(3))
	switch c.r.Intn(20) {
	case 0:
		v.Slot = c.r.Intn(70) - 3
	case 1:
		v.Origin = v.Ballot + c.r.Intn(2)
	case 2:
		v.Bytes = of(mostBytes - 1 + c.r.Intn(3))
	}
	return v
}

// torn is bytes that a crash may have left behind the log: of a frame a part, one that is
// whole but no record, a record that was never told, or whatever.
func (c *chance) torn() []byte {
	v := c.vote()
	b := voted(v)
	switch c.r.Intn(5) {
	case 0:
		return b[:c.r.Intn(len(b))]
	case 1:
		return join(promised(1+c.r.Intn(50)), b)
	case 2:
		return frameOf(b)
	case 3:
		b[c.r.Intn(len(b))] ^= byte(1 + c.r.Intn(255))
		return join(b, b)
	}
	c.r.Read(b)
	return b
}

// step does one thing to both.
func (c *chance) step(kind int) string {
	switch kind {
	case 0, 1, 2:
		b := c.ballot()
		what := fmt.Sprintf("Promise(%d)", b)
		expect(c.t, what, c.l.Promise(b), c.m.promise(b))
		return what
	case 3, 4, 5, 6:
		v := c.vote()
		what := fmt.Sprintf("Vote(%+v)", v)
		expect(c.t, what, c.l.Vote(v), c.m.vote(v))
		return what
	case 7:
		expect(c.t, "Compact", c.l.Compact(), c.m.compact())
		return "Compact"
	case 8:
		c.l = opens(c.t, "Open", c.d, c.m)
		return "Open"
	}
	return c.crash()
}

// crash tears what an append left, and opens what is there. A greater ballot may come of
// a record that is whole; a lesser one never.
func (c *chance) crash() string {
	greatest, votes := c.m.says()
	torn, keep := c.torn(), []int{c.r.Intn(100), c.r.Intn(100)}
	c.d.Append("log", torn)
	c.d.Crash(keep)
	c.m.tear(torn, keep)
	c.l = opens(c.t, "behind a crash", c.d, c.m)
	if c.l.Promised() < greatest {
		c.t.Errorf("%d was promised, and %d is", greatest, c.l.Promised())
	}
	after := map[int]api.Vote{}
	for _, v := range c.l.Votes() {
		after[v.Slot] = v
	}
	for _, v := range votes {
		if after[v.Slot].Ballot < v.Ballot {
			c.t.Errorf("%+v was voted, and %+v is", v, after[v.Slot])
		}
	}
	return "a crash"
}

func walk(t *testing.T, seed int64, steps int) {
	r := rand.New(rand.NewSource(seed))
	capacity := []int{0, 30, 100, 300, 1000, 5000, mostDisk}[r.Intn(7)]
	c := &chance{t: t, r: r, d: disk.New(capacity), m: &model{capacity: capacity, papers: map[string]paper{}}}
	if r.Intn(3) == 0 && c.d.Append("a", []byte("other")) == api.OK {
		c.m.papers["a"] = paper{[]byte("other"), 0}
	}
	c.l = opens(t, "first", c.d, c.m)
	for range steps {
		before, _ := c.m.says()
		what := c.step(r.Intn(10))
		agree(t, fmt.Sprintf("seed %d, behind %s", seed, what), c.l, c.d, c.m)
		if c.l.Promised() < before {
			t.Errorf("seed %d, behind %s: %d, was %d", seed, what, c.l.Promised(), before)
		}
		if t.Failed() {
			return
		}
	}
}

func TestWhateverSteps(t *testing.T) {
	for seed := range int64(700) {
		walk(t, seed, 60)
		if t.Failed() {
			return
		}
	}
}

func FuzzSteps(f *testing.F) {
	f.Add(int64(18), 20)
	f.Fuzz(func(t *testing.T, seed int64, steps int) {
		walk(t, seed, min(max(steps, 0), 200))
	})
}

func FuzzOpen(f *testing.F) {
	for _, b := range files() {
		f.Add(b, 3)
		f.Add(append(b, "torn"...), 40)
	}
	f.Fuzz(func(t *testing.T, b []byte, synced int) {
		b = b[:min(len(b), mostDisk)]
		d, m := laid(t, mostDisk, b, min(max(synced, 0), len(b)))
		l := opens(t, "bytes", d, m)
		expect(t, "Compact", l.Compact(), m.compact())
		agree(t, "compacted", l, d, m)
	})
}

// At whichever byte a crash hits the file: what stood ahead of it stays.
func TestWhatWasSyncedStays(t *testing.T) {
	more := join(promised(40), voted(vote(2, 41, "later")))
	for keep := range len(more) + 1 {
		d, m := laid(t, 1000, file(), 0)
		l := opens(t, "a file", d, m)
		votes := l.Votes()
		d.Append("log", more)
		d.Crash([]int{keep})
		l = log.Open(d)
		got := l.Votes()
		switch {
		case keep == len(more):
			votes[1] = vote(2, 41, "later")
			expectSays(t, "all of it", l, 41, votes...)
		case keep >= 20:
			expectSays(t, "the promise", l, 40, votes...)
		default:
			expectSays(t, "none of it", l, 20, votes...)
		}
		if len(got) != 3 {
			t.Error(say(got))
		}
	}
}

// A crash just behind each call, with nothing kept: what was answered stays.
func TestCrashBehindEachCall(t *testing.T) {
	d, m := made(t, 4000, map[string]string{"a": "x|y"})
	l := opens(t, "empty", d, m)
	for n := 1; n <= 40; n++ {
		expect(t, "Promise", l.Promise(2*n), m.promise(2*n))
		d.Crash(nil)
		m.tear(nil, nil)
		expectSays(t, "an opened one", log.Open(d), 2*n, l.Votes()...)
		agree(t, "the one that is open", l, d, m)
		v := vote(n%7, 2*n+n%2, fmt.Sprint(n))
		expect(t, "Vote", l.Vote(v), m.vote(v))
		d.Crash(nil)
		l = opens(t, "opened", d, m)
		if !slices.Contains(l.Votes(), v) {
			t.Errorf("%+v isn't there", v)
		}
		if n%10 == 0 {
			expect(t, "Compact", l.Compact(), m.compact())
			d.Crash([]int{n})
			opens(t, "opened", d, m)
		}
	}
}

// Opened over and over, a log stays.
func TestOpenedAgain(t *testing.T) {
	for _, b := range files() {
		d, m := laid(t, mostDisk, append(b, "torn"...), 0)
		for range 4 {
			opens(t, "again", d, m)
		}
	}
}

// The log works on the disk itself, and on no other: a copy is one of its own.
func TestWorksOnItsDisk(t *testing.T) {
	d, m := laid(t, 1000, file(), 0)
	l := opens(t, "a file", d, m)
	c, before := d.Copy(), state(d)
	expect(t, "Promise", l.Promise(50), m.promise(50))
	expect(t, "Compact", l.Compact(), m.compact())
	agree(t, "its disk", l, d, m)
	if state(c) != before {
		t.Errorf("the copy: %s, was %s", state(c), before)
	}
	other := log.Open(c)
	expect(t, "Promise on the copy", other.Promise(60), api.OK)
	agree(t, "its disk", l, d, m)
	if other.Promised() != 60 || l.Promised() != 50 {
		t.Error(other.Promised(), l.Promised())
	}
}

// P18.5

func TestVotesAreNewMemory(t *testing.T) {
	d, m := laid(t, mostDisk, everySlot("first"), 0)
	l := opens(t, "every slot", d, m)
	writeOver := func(l []api.Vote) {
		l = l[:cap(l)]
		for i := range l {
			l[i] = api.Vote{Slot: 1000, Ballot: -1}
		}
	}
	first, other := l.Votes(), l.Votes()
	writeOver(first)
	if _, want := m.says(); !slices.Equal(other, want) {
		t.Errorf("another answer: %s", say(other))
	}
	agree(t, "written over", l, d, m)
	expect(t, "Compact", l.Compact(), m.compact())
	agree(t, "compacted", l, d, m)
	b, _ := d.Read("log")
	_, first = log.Read(b)
	_, other = log.Read(b)
	writeOver(first)
	if _, want := says(b); !slices.Equal(other, want) {
		t.Errorf("another answer: %s", say(other))
	}
}

func TestWhatIsHandedInStays(t *testing.T) {
	for _, b := range append(files(), append(file(), "torn"...), []byte("torn")) {
		// Bytes behind the end are the caller's, too.
		room := append(bytes.Clone(b), "behind"...)
		before := bytes.Clone(room)
		n, votes := log.Read(room[:len(b)])
		if !bytes.Equal(room, before) {
			t.Errorf("Read of %d bytes left %x", len(b), room)
		}
		for i := range room {
			room[i] ^= 0xa5
		}
		if wantN, want := says(before[:len(b)]); n != wantN || !slices.Equal(votes, want) {
			t.Errorf("the bytes that were read are others, and so is %d, %s", n, say(votes))
		}
	}
}

// P1: no call panics, of a log that Open didn't make, too: it has no disk, and no room.
func TestNotOfOpen(t *testing.T) {
	var l log.Log
	for range 2 {
		expectSays(t, "nothing", &l, 0)
		if l.Size() != 0 {
			t.Error(l.Size())
		}
		expect(t, "Promise(0)", l.Promise(0), api.ErrArg)
		expect(t, "Promise", l.Promise(1), api.ErrFull)
		expect(t, "Vote of a wrong one", l.Vote(api.Vote{}), api.ErrArg)
		expect(t, "Vote", l.Vote(vote(1, 1, "")), api.ErrFull)
		l.Compact()
	}
	d := &disk.Disk{}
	o := log.Open(d)
	expectSays(t, "a disk that New didn't make", o, 0)
	expect(t, "Promise", o.Promise(1), api.ErrFull)
}

// What a call answers hangs on its log alone: others between change nothing, and what is
// asked changes nothing.
func TestAnswersStay(t *testing.T) {
	var logs []*log.Log
	var disks []*disk.Disk
	var models []*model
	for _, b := range files() {
		d, m := laid(t, mostDisk, b, 0)
		logs, disks, models = append(logs, opens(t, "a file", d, m)), append(disks, d), append(models, m)
	}
	for round := range 5 {
		for i, l := range logs {
			n := l.Promised() + 1
			expect(t, "Promise", l.Promise(n), models[i].promise(n))
			v := vote(i, l.Promised(), fmt.Sprint(round))
			expect(t, "Vote", l.Vote(v), models[i].vote(v))
		}
		for i := len(logs) - 1; i >= 0; i-- {
			agree(t, fmt.Sprintf("log %d, round %d", i, round), logs[i], disks[i], models[i])
			agree(t, "again", logs[i], disks[i], models[i])
		}
	}
}
