package msg_test

import (
	"bytes"
	"encoding/binary"
	"encoding/hex"
	"fmt"
	"hash/crc32"
	"math"
	"math/rand"
	"reflect"
	"slices"
	"strings"
	"testing"

	"shardlog/api"
	"shardlog/msg"
)

const (
	mostReplica = 6
	mostSlot    = 63
	mostBallot  = 1<<31 - 1
	mostBytes   = 520
	mostNum     = 1<<32 - 1
)

// The words of the chapter, and of those it builds on, once more, by the Go library
// alone.

func isBallot(b int) bool { return 1 <= b && b <= mostBallot }

func isSlot(n int) bool { return 0 <= n && n <= mostSlot }

func isReplica(n int) bool { return 0 <= n && n <= mostReplica }

func isVote(v api.Vote) bool {
	return isSlot(v.Slot) && isBallot(v.Ballot) && isBallot(v.Origin) && v.Origin <= v.Ballot && len(v.Bytes) <= mostBytes
}

func isRight(m api.Msg) bool {
	if !isReplica(m.From) || !isReplica(m.To) || !isBallot(m.Ballot) {
		return false
	}
	noSlot, noVote, noVotes := m.Slot == 0, m.Vote == api.Vote{}, len(m.Votes) == 0
	switch m.Kind {
	case 1, 5: // Prepare, Refuse
		return noSlot && noVote && noVotes
	case 2: // Promise
		for i, v := range m.Votes {
			if !isVote(v) || v.Ballot >= m.Ballot || i > 0 && m.Votes[i-1].Slot >= v.Slot {
				return false
			}
		}
		return noSlot && noVote
	case 3: // Accept
		return noSlot && noVotes && isVote(m.Vote) && m.Vote.Ballot == m.Ballot
	case 4: // Accepted
		return isSlot(m.Slot) && noVote && noVotes
	}
	return false
}

func num(n int) []byte { return binary.BigEndian.AppendUint32(nil, uint32(n)) }

func join(parts ...[]byte) []byte { return bytes.Join(parts, nil) }

func text(b []byte) []byte { return join(num(len(b)), b) }

func sum(b []byte) []byte {
	return num(int(crc32.Checksum(b, crc32.MakeTable(crc32.Castagnoli))))
}

func frameOf(rec []byte) []byte { return join(num(len(rec)), sum(num(len(rec))), sum(rec), rec) }

func voteRec(v api.Vote) []byte {
	full := 0
	if v.Full {
		full = 1
	}
	return join(num(2), num(v.Slot), num(v.Ballot), num(v.Origin), num(full), text([]byte(v.Bytes)))
}

// spelt is a record with whatever texts in the places of votes.
func spelt(m api.Msg, vote []byte, votes ...[]byte) []byte {
	l := [][]byte{num(m.Kind), num(m.From), num(m.To), num(m.Ballot), num(m.Slot), text(vote), num(len(votes))}
	for _, v := range votes {
		l = append(l, text(v))
	}
	return join(l...)
}

// recordOf is a message's record, of one that isn't right too.
func recordOf(m api.Msg) []byte {
	var vote []byte
	if m.Vote != (api.Vote{}) {
		vote = voteRec(m.Vote)
	}
	var votes [][]byte
	for _, v := range m.Votes {
		votes = append(votes, voteRec(v))
	}
	return spelt(m, vote, votes...)
}

func bytesOf(m api.Msg) []byte { return frameOf(recordOf(m)) }

// reader goes through bytes by a place; past their end it is lost.
type reader struct {
	b    []byte
	at   int
	lost bool
}

func (r *reader) num() int {
	if r.lost = r.lost || len(r.b)-r.at < 4; r.lost {
		return 0
	}
	r.at += 4
	return int(binary.BigEndian.Uint32(r.b[r.at-4:]))
}

func (r *reader) text() []byte {
	n := r.num()
	if r.lost = r.lost || len(r.b)-r.at < n; r.lost {
		return nil
	}
	r.at += n
	return r.b[r.at-n : r.at]
}

// vote is the vote that the bytes spell, which has to be a right one.
func (r *reader) vote() api.Vote {
	v := reader{b: r.text()}
	kind, slot, ballot, origin, full := v.num(), v.num(), v.num(), v.num(), v.num()
	vote := api.Vote{Slot: slot, Ballot: ballot, Origin: origin, Full: full == 1, Bytes: string(v.text())}
	r.lost = r.lost || v.lost || v.at < len(v.b) || kind != 2 || full > 1 || !isVote(vote)
	return vote
}

// get is what Get answers.
func get(b []byte) (api.Msg, api.Errno) {
	if len(b) < 12 || len(b) > 12+65535 || !bytes.Equal(b, frameOf(b[12:])) {
		return api.Msg{}, api.ErrForm
	}
	r := reader{b: b[12:]}
	m := api.Msg{Kind: r.num(), From: r.num(), To: r.num(), Ballot: r.num(), Slot: r.num()}
	if m.Kind == 3 {
		m.Vote = r.vote()
	} else if len(r.text()) > 0 {
		return api.Msg{}, api.ErrForm
	}
	for n := r.num(); n > 0 && !r.lost; n-- {
		m.Votes = append(m.Votes, r.vote())
	}
	if r.lost || r.at < len(r.b) || !isRight(m) {
		return api.Msg{}, api.ErrForm
	}
	return m, api.OK
}

// same tells whether all that can be seen of the messages is the same.
func same(a, b api.Msg) bool { return reflect.DeepEqual(inFull(a), inFull(b)) }

// inFull is the message with an empty list in the place of none: these are one.
func inFull(m api.Msg) api.Msg {
	m.Votes = append([]api.Vote{}, m.Votes...)
	return m
}

func of(n int) string { return strings.Repeat("n", n) }

// say is a message in a report: the longest bytes would fill the screen.
func say(m api.Msg) string {
	s := fmt.Sprintf("(kind %d, %d to %d, ballot %d, slot %d, vote %s", m.Kind, m.From, m.To, m.Ballot, m.Slot, sayVote(m.Vote))
	for i, v := range m.Votes {
		if i == 4 {
			return fmt.Sprintf("%s .. of %d)", s, len(m.Votes))
		}
		s += "; " + sayVote(v)
	}
	return s + ")"
}

func sayVote(v api.Vote) string {
	if v == (api.Vote{}) {
		return "-"
	}
	return fmt.Sprintf("%d %d %d %v, %d bytes %.20q", v.Slot, v.Ballot, v.Origin, v.Full, len(v.Bytes), v.Bytes)
}

func short(b []byte) string {
	if len(b) > 90 {
		return fmt.Sprintf("%x.. (%d bytes)", b[:90], len(b))
	}
	return hex.EncodeToString(b)
}

// nothing tells that there is no message.
func nothing(m api.Msg) bool {
	return m.Kind == 0 && m.From == 0 && m.To == 0 && m.Ballot == 0 && m.Slot == 0 && m.Vote == api.Vote{} && len(m.Votes) == 0
}

// checkPut holds Right and Put against the chapter's words, and reads what was put.
func checkPut(t *testing.T, m api.Msg) {
	t.Helper()
	right := isRight(m)
	if got := msg.Right(m); got != right {
		t.Errorf("Right%s = %v", say(m), got)
	}
	b, e := msg.Put(m)
	if !right {
		if len(b) != 0 || e != api.ErrArg {
			t.Errorf("Put%s = %s, %d", say(m), short(b), e)
		}
		return
	}
	if want := bytesOf(m); !bytes.Equal(b, want) || e != api.OK {
		t.Errorf("Put%s = %s, %d, want %s", say(m), short(b), e, short(want))
	}
	if n, e := msg.Get(b); !same(n, m) || e != api.OK {
		t.Errorf("Get of the bytes of %s = %s, %d", say(m), say(n), e)
	}
}

// checkGet holds Get against the chapter's words, and puts what was read.
func checkGet(t *testing.T, b []byte) {
	t.Helper()
	want, wantE := get(b)
	m, e := msg.Get(b)
	if !same(m, want) || e != wantE {
		t.Errorf("Get of %s = %s, %d, want %s, %d", short(b), say(m), e, say(want), wantE)
	}
	if e != api.OK {
		return
	}
	if again, f := msg.Put(m); !bytes.Equal(again, b) || f != api.OK {
		t.Errorf("%s was read as %s, and is written as %s, %d", short(b), say(m), short(again), f)
	}
}

// wrongForm tells that the bytes must not be read, whatever the words above say.
func wrongForm(t *testing.T, b []byte) {
	t.Helper()
	if m, e := msg.Get(b); !nothing(m) || e != api.ErrForm {
		t.Errorf("Get of %s = %s, %d", short(b), say(m), e)
	}
	checkGet(t, b)
}

// wrongMsg tells that the message must not be put, whatever the words above say.
func wrongMsg(t *testing.T, m api.Msg) {
	t.Helper()
	if b, e := msg.Put(m); msg.Right(m) || len(b) != 0 || e != api.ErrArg {
		t.Errorf("Put%s = %s, %d; Right %v", say(m), short(b), e, msg.Right(m))
	}
	checkPut(t, m)
}

func vote(slot, ballot int) api.Vote {
	return api.Vote{Slot: slot, Ballot: ballot, Origin: 1, Bytes: "xyz"}
}

// full are votes for all slots, with the longest bytes.
func full() []api.Vote {
	var l []api.Vote
	for n := range mostSlot + 1 {
		l = append(l, api.Vote{Slot: n, Ballot: mostBallot - 1, Origin: mostBallot - 1, Full: true, Bytes: of(mostBytes)})
	}
	return l
}

// ones are right messages: of each kind with all that it has, and with the least.
func ones() []api.Msg {
	return []api.Msg{
		{Kind: 1, From: 3, To: 5, Ballot: 258},
		{Kind: 1, Ballot: 1},
		{Kind: 1, From: 6, To: 6, Ballot: mostBallot},
		{Kind: 2, From: 6, To: 5, Ballot: 9, Votes: []api.Vote{vote(0, 8), vote(7, 1), {Slot: 63, Ballot: 8, Origin: 8, Full: true}}},
		{Kind: 2, From: 1, Ballot: 300, Votes: []api.Vote{{Slot: 63, Ballot: 299, Origin: 2, Full: true, Bytes: "value"}}},
		{Kind: 2, Ballot: 1},
		{Kind: 2, To: 6, Ballot: mostBallot},
		{Kind: 3, From: 2, To: 4, Ballot: 8, Vote: vote(63, 8)},
		{Kind: 3, Ballot: 1, Vote: api.Vote{Ballot: 1, Origin: 1}},
		{Kind: 3, From: 6, To: 6, Ballot: mostBallot, Vote: api.Vote{Slot: 63, Ballot: mostBallot, Origin: mostBallot, Full: true, Bytes: of(mostBytes)}},
		{Kind: 3, To: 1, Ballot: 70000, Vote: api.Vote{Slot: 5, Ballot: 70000, Origin: 300, Bytes: "\x00\x00\x00\x02"}},
		{Kind: 4, From: 1, To: 2, Ballot: 8, Slot: 63},
		{Kind: 4, Ballot: 1},
		{Kind: 4, From: 6, To: 6, Ballot: mostBallot, Slot: 63},
		{Kind: 5, From: 4, Ballot: 1<<24 + 2},
		{Kind: 5, Ballot: 1},
		{Kind: 5, From: 6, To: 6, Ballot: mostBallot},
	}
}

// longest has the most that a message may have.
func longest() api.Msg {
	return api.Msg{Kind: 2, From: 6, To: 6, Ballot: mostBallot, Votes: full()}
}

func numbers() []int {
	return []int{math.MinInt, -1<<32 + 1, -1 << 32, -mostBallot, -64, -7, -1, 0, 1, 2, 3, 4, 5, 6, 7, 8, 9, 62, 63, 64, 65, 255, 256, 257, 299, 300, 301, 1 << 16, 1 << 24,
		mostBallot - 1, mostBallot, mostBallot + 1, mostNum, 1 << 32, 1<<32 + 1, 1<<32 + 6, 1<<32 + 8, math.MaxInt}
}

// votes are such as a message may have, and such as none may.
func votes() []api.Vote {
	return []api.Vote{{}, vote(0, 8), vote(63, 8), vote(0, 1), {Ballot: 1, Origin: 1}, {Ballot: 8, Origin: 8, Full: true}, {Slot: 63, Ballot: mostBallot, Origin: 1, Bytes: of(mostBytes)},
		{Slot: 64, Ballot: 8, Origin: 1}, {Slot: -1, Ballot: 8, Origin: 1}, {Ballot: 8}, {Ballot: 8, Origin: 9}, {Ballot: 8, Origin: -1}, {Origin: 1}, {Slot: 1}, {Full: true}, {Bytes: "x"},
		{Ballot: 8, Origin: 1, Bytes: of(mostBytes + 1)}, {Ballot: mostBallot + 1, Origin: 1}, {Ballot: 1<<32 + 8, Origin: 1}, {Slot: 1 << 32, Ballot: 8, Origin: 1}, {Ballot: 8, Origin: 1<<32 + 1}}
}

func lists() [][]api.Vote {
	l := [][]api.Vote{nil, {}, {vote(0, 8), vote(1, 8)}, {vote(1, 8), vote(0, 8)}, {vote(1, 8), vote(1, 8)}, {vote(1, 8), vote(1, 7)}, {vote(1, 7), vote(1, 8)}, {vote(62, 1), vote(63, 2)},
		{vote(0, 8), vote(1, 9)}, {vote(0, 9), vote(1, 8)}, {vote(0, 1), vote(2, 2), vote(1, 3)}, {vote(0, 1), vote(1, 2), vote(2, 3), vote(3, 4)}, {vote(0, 1), {}}, {{}, vote(0, 1)}, full(), slices.Concat(full(), full())}
	for _, v := range votes() {
		l = append(l, []api.Vote{v}, []api.Vote{v, vote(63, 1)}, []api.Vote{vote(0, 1), v})
	}
	return l
}

// changed are the messages, changed in one thing.
func changed(all []api.Msg) []api.Msg {
	var l []api.Msg
	for _, m := range all {
		l = append(l, m)
		for _, n := range numbers() {
			for _, at := range []func(m *api.Msg) *int{
				func(m *api.Msg) *int { return &m.Kind }, func(m *api.Msg) *int { return &m.From }, func(m *api.Msg) *int { return &m.To },
				func(m *api.Msg) *int { return &m.Ballot }, func(m *api.Msg) *int { return &m.Slot },
				func(m *api.Msg) *int { return &m.Vote.Slot }, func(m *api.Msg) *int { return &m.Vote.Ballot }, func(m *api.Msg) *int { return &m.Vote.Origin },
			} {
				c := m
				*at(&c) = n
				l = append(l, c)
			}
			c := m
			c.Ballot, c.Vote.Ballot = n, n
			l = append(l, c)
		}
		for _, v := range votes() {
			c := m
			c.Vote = v
			l = append(l, c)
			c.Ballot = v.Ballot
			l = append(l, c)
		}
		for _, v := range lists() {
			c := m
			c.Votes = v
			l = append(l, c)
		}
	}
	return l
}

// P19.1

// letters are messages and their bytes.
func letters() []struct {
	m    api.Msg
	want string
} {
	return []struct {
		m    api.Msg
		want string
	}{
		{api.Msg{Kind: 1, From: 3, To: 5, Ballot: 258}, "0000001c" + "157a4378" + "dedb749d" + "00000001000000030000000500000102000000000000000000000000"},
		{api.Msg{Kind: 2, To: 6, Ballot: 9}, "0000001c" + "157a4378" + "ddb962dc" + "00000002000000000000000600000009000000000000000000000000"},
		{api.Msg{Kind: 2, From: 6, Ballot: 9, Votes: []api.Vote{{Slot: 1, Ballot: 8, Origin: 7, Bytes: "ab"}}}, "0000003a" + "13662a4e" + "414b8230" + "000000020000000600000000000000090000000000000000000000010000001a0000000200000001000000080000000700000000000000026162"},
		{api.Msg{Kind: 2, From: 6, Ballot: 9, Votes: []api.Vote{{Ballot: 8, Origin: 7, Full: true}, {Slot: 63, Ballot: 1, Origin: 1, Bytes: "c"}}}, "00000055" + "2cb38508" + "6770abc3" + "000000020000000600000000000000090000000000000000000000020000001800000002000000000000000800000007000000010000000000000019000000020000003f0000000100000001000000000000000163"},
		{api.Msg{Kind: 3, From: 1, To: 2, Ballot: 300, Vote: api.Vote{Slot: 63, Ballot: 300, Origin: 2, Full: true, Bytes: "ab"}}, "00000036" + "5e25e59e" + "305958bd" + "0000000300000001000000020000012c000000000000001a000000020000003f0000012c000000020000000100000002616200000000"},
		{api.Msg{Kind: 4, From: 5, To: 4, Ballot: 1<<31 - 1, Slot: 63}, "0000001c" + "157a4378" + "e0f7ccc8" + "0000000400000005000000047fffffff0000003f0000000000000000"},
		{api.Msg{Kind: 5, From: 2, Ballot: 1}, "0000001c" + "157a4378" + "4be8e13f" + "00000005000000020000000000000001000000000000000000000000"},
	}
}

func TestPutByTheLetter(t *testing.T) {
	for _, c := range letters() {
		b, e := msg.Put(c.m)
		if hex.EncodeToString(b) != c.want || e != api.OK || !msg.Right(c.m) {
			t.Errorf("Put%s = %x, %d, want %s; Right %v", say(c.m), b, e, c.want, msg.Right(c.m))
		}
		want, err := hex.DecodeString(c.want)
		if m, e := msg.Get(want); err != nil || !same(m, c.m) || e != api.OK {
			t.Errorf("Get of %s = %s, %d, want %s", c.want, say(m), e, say(c.m))
		}
	}
}

// The chapter's example.
func TestLengthOfAPrepare(t *testing.T) {
	for _, m := range ones() {
		if b, _ := msg.Put(m); m.Kind == 1 && len(b) != 12+28 {
			t.Errorf("Put%s has %d bytes", say(m), len(b))
		}
	}
}

func TestRightOnes(t *testing.T) {
	for _, m := range append(ones(), longest()) {
		if b, e := msg.Put(m); !msg.Right(m) || len(b) == 0 || e != api.OK {
			t.Errorf("Put%s = %s, %d; Right %v", say(m), short(b), e, msg.Right(m))
		}
		checkPut(t, m)
		checkGet(t, bytesOf(m))
	}
	if b, e := msg.Put(longest()); len(b) != 12+28+64*(4+24+520) || e != api.OK {
		t.Errorf("the longest one has %d bytes, %d", len(b), e)
	}
}

// Wrong in one thing alone each, but for the first ones.
func TestWrongOnesByTheLetter(t *testing.T) {
	for _, m := range []api.Msg{
		{}, {Kind: 1}, {Ballot: 1}, {From: 1, To: 2, Slot: 3},
		{Kind: 0, Ballot: 1}, {Kind: 6, Ballot: 1}, {Kind: 7, Ballot: 1}, {Kind: -1, Ballot: 1}, {Kind: math.MinInt, Ballot: 1}, {Kind: math.MaxInt, Ballot: 1}, {Kind: 1<<32 + 1, Ballot: 1},
		{Kind: 1, Ballot: 1, From: 7}, {Kind: 1, Ballot: 1, From: -1}, {Kind: 1, Ballot: 1, From: 1 << 32}, {Kind: 1, Ballot: 1, To: 7}, {Kind: 1, Ballot: 1, To: -1}, {Kind: 1, Ballot: 1, To: 1 << 32},
		{Kind: 1, Ballot: -1}, {Kind: 1, Ballot: mostBallot + 1}, {Kind: 1, Ballot: mostNum}, {Kind: 1, Ballot: 1<<32 + 1}, {Kind: 2}, {Kind: 2, Ballot: mostBallot + 1}, {Kind: 4}, {Kind: 4, Ballot: mostBallot + 1}, {Kind: 5}, {Kind: 5, Ballot: mostBallot + 1},
		{Kind: 1, Ballot: 9, Slot: 1}, {Kind: 2, Ballot: 9, Slot: 1}, {Kind: 3, Ballot: 8, Slot: 1, Vote: vote(1, 8)}, {Kind: 5, Ballot: 9, Slot: 1}, {Kind: 1, Ballot: 9, Slot: -1},
		{Kind: 4, Ballot: 9, Slot: 64}, {Kind: 4, Ballot: 9, Slot: -1}, {Kind: 4, Ballot: 9, Slot: 1 << 32}, {Kind: 4, Ballot: 9, Slot: math.MinInt},
		{Kind: 1, Ballot: 8, Vote: vote(0, 8)}, {Kind: 2, Ballot: 8, Vote: vote(0, 8)}, {Kind: 4, Ballot: 8, Vote: vote(0, 8)}, {Kind: 5, Ballot: 8, Vote: vote(0, 8)},
		{Kind: 1, Ballot: 8, Vote: api.Vote{Full: true}}, {Kind: 2, Ballot: 8, Vote: api.Vote{Bytes: "x"}}, {Kind: 4, Ballot: 8, Vote: api.Vote{Origin: 1}}, {Kind: 5, Ballot: 8, Vote: api.Vote{Ballot: 8}}, {Kind: 5, Ballot: 8, Vote: api.Vote{Slot: 8}},
		{Kind: 1, Ballot: 9, Votes: []api.Vote{vote(0, 8)}}, {Kind: 3, Ballot: 9, Vote: vote(0, 9), Votes: []api.Vote{vote(0, 8)}}, {Kind: 4, Ballot: 9, Votes: []api.Vote{vote(0, 8)}}, {Kind: 5, Ballot: 9, Votes: []api.Vote{vote(0, 8)}}, {Kind: 1, Ballot: 9, Votes: []api.Vote{{}}},
		{Kind: 3, Ballot: 9}, {Kind: 3, Ballot: 9, Vote: vote(0, 8)}, {Kind: 3, Ballot: 9, Vote: vote(0, 10)}, {Kind: 3, Ballot: 9, Vote: vote(64, 9)}, {Kind: 3, Ballot: 9, Vote: vote(-1, 9)},
		{Kind: 3, Ballot: 9, Vote: api.Vote{Ballot: 9}}, {Kind: 3, Ballot: 9, Vote: api.Vote{Ballot: 9, Origin: 10}}, {Kind: 3, Ballot: 9, Vote: api.Vote{Ballot: 9, Origin: 1, Bytes: of(521)}}, {Kind: 3, Vote: api.Vote{Origin: 1}}, {Kind: 3, Ballot: mostBallot + 1, Vote: vote(0, mostBallot+1)},
		{Kind: 2, Ballot: 8, Votes: []api.Vote{vote(0, 8)}}, {Kind: 2, Ballot: 8, Votes: []api.Vote{vote(0, 9)}}, {Kind: 2, Ballot: 8, Votes: []api.Vote{vote(0, 7), vote(1, 8)}}, {Kind: 2, Ballot: 8, Votes: []api.Vote{vote(0, 8), vote(1, 7)}},
		{Kind: 2, Ballot: 9, Votes: []api.Vote{vote(1, 8), vote(1, 7)}}, {Kind: 2, Ballot: 9, Votes: []api.Vote{vote(1, 8), vote(0, 8)}}, {Kind: 2, Ballot: 9, Votes: []api.Vote{vote(0, 8), vote(5, 8), vote(4, 8)}}, {Kind: 2, Ballot: 9, Votes: []api.Vote{vote(0, 8), vote(5, 8), vote(0, 8)}},
		{Kind: 2, Ballot: 9, Votes: []api.Vote{{}}}, {Kind: 2, Ballot: 9, Votes: []api.Vote{vote(64, 8)}}, {Kind: 2, Ballot: 9, Votes: []api.Vote{vote(-1, 8)}}, {Kind: 2, Ballot: 9, Votes: []api.Vote{vote(0, 0)}}, {Kind: 2, Ballot: 9, Votes: []api.Vote{vote(0, -1)}},
		{Kind: 2, Ballot: 9, Votes: []api.Vote{{Ballot: 8, Origin: 9}}}, {Kind: 2, Ballot: 9, Votes: []api.Vote{vote(0, 8), {Slot: 1, Ballot: 8}}}, {Kind: 2, Ballot: 9, Votes: []api.Vote{{Ballot: 8, Origin: 8, Bytes: of(521)}}},
	} {
		wrongMsg(t, m)
	}
}

// An empty list is none.
func TestEmptyLists(t *testing.T) {
	for _, m := range ones() {
		if len(m.Votes) > 0 {
			continue
		}
		want := bytesOf(m)
		for _, l := range [][]api.Vote{nil, {}, full()[:0]} {
			m.Votes = l
			if b, e := msg.Put(m); !msg.Right(m) || !bytes.Equal(b, want) || e != api.OK {
				t.Errorf("Put%s = %s, %d", say(m), short(b), e)
			}
		}
	}
}

func TestPut(t *testing.T) {
	right := 0
	for _, m := range changed(ones()) {
		checkPut(t, m)
		if isRight(m) {
			right++
		}
	}
	if right < 300 {
		t.Errorf("only %d were right", right)
	}
}

// All kinds with all that any kind has, together.
func TestPutOfAllTogether(t *testing.T) {
	for kind := -1; kind <= 7; kind++ {
		for _, slot := range []int{-1, 0, 1, 63, 64} {
			for _, ballot := range []int{-1, 0, 1, 2, 8, 9, mostBallot, mostBallot + 1} {
				for _, v := range votes() {
					for _, l := range lists()[:12] {
						checkPut(t, api.Msg{Kind: kind, From: 6, Ballot: ballot, Slot: slot, Vote: v, Votes: l})
					}
				}
			}
		}
	}
}

// All replicas, all slots, ballots around each other, and votes for some of few slots in
// any order.
func TestPutOfAll(t *testing.T) {
	for kind := range 8 {
		for from := -3; from <= 10; from++ {
			for to := -3; to <= 10; to++ {
				checkPut(t, api.Msg{Kind: kind, From: from, To: to, Ballot: 8})
				checkPut(t, api.Msg{Kind: kind, From: from, To: to, Ballot: 8, Vote: vote(1, 8)})
			}
		}
		for n := -70; n <= 140; n++ {
			checkPut(t, api.Msg{Kind: kind, Ballot: 8, Slot: n})
			checkPut(t, api.Msg{Kind: kind, Ballot: 8, Vote: vote(n, 8)})
			checkPut(t, api.Msg{Kind: kind, Ballot: 8, Votes: []api.Vote{vote(n, 7)}})
			for d := -3; d <= 3; d++ {
				checkPut(t, api.Msg{Kind: kind, Ballot: 8, Votes: []api.Vote{vote(n, 7), vote(n+d, 7)}})
			}
		}
		for ballot := -3; ballot <= 20; ballot++ {
			for other := -3; other <= 20; other++ {
				checkPut(t, api.Msg{Kind: kind, Ballot: ballot, Vote: vote(1, other)})
				checkPut(t, api.Msg{Kind: kind, Ballot: ballot, Votes: []api.Vote{vote(1, other)}})
				checkPut(t, api.Msg{Kind: kind, Ballot: ballot, Votes: []api.Vote{vote(1, 1), vote(2, other)}})
				checkPut(t, api.Msg{Kind: kind, Ballot: mostBallot - 10 + ballot, Vote: vote(1, mostBallot-10+other)})
				checkPut(t, api.Msg{Kind: kind, Ballot: mostBallot - 10 + ballot, Votes: []api.Vote{vote(1, mostBallot-10+other)}})
			}
		}
	}
	for a := range 5 {
		for b := range 5 {
			for c := range 5 {
				checkPut(t, api.Msg{Kind: 2, Ballot: 9, Votes: []api.Vote{vote(a, 8), vote(b, 7), vote(c, 6)}})
			}
		}
	}
}

func TestGetByTheLetter(t *testing.T) {
	for _, b := range [][]byte{nil, {}, {0}, make([]byte, 12), make([]byte, 28), make([]byte, 40), make([]byte, 1<<16), make([]byte, 1<<17), frameOf(nil), frameOf([]byte{0, 0, 0, 1}), frameOf(make([]byte, 28)), frameOf(make([]byte, 65535)), frameOf(make([]byte, 65536))} {
		wrongForm(t, b)
	}
	prepare := recordOf(api.Msg{Kind: 1, From: 3, To: 5, Ballot: 258})
	accept := recordOf(api.Msg{Kind: 3, From: 3, To: 5, Ballot: 8, Vote: vote(2, 8)})
	promise := recordOf(api.Msg{Kind: 2, From: 3, To: 5, Ballot: 9, Votes: []api.Vote{vote(2, 8), vote(3, 8)}})
	for _, rec := range [][]byte{prepare, accept, promise} {
		if m, e := msg.Get(frameOf(rec)); nothing(m) || e != api.OK {
			t.Errorf("Get of %x = %s, %d", rec, say(m), e)
		}
		wrongForm(t, rec) // without its frame
		wrongForm(t, frameOf(frameOf(rec)))
	}
	for _, c := range []struct {
		of      []byte
		at, to  int
		instead string
	}{
		{prepare, 28, 28, "\x00"}, {prepare, 28, 28, "\x00\x00\x00\x00"}, {prepare, 0, 0, "\x00"}, {prepare, 27, 28, ""}, {prepare, 24, 28, ""}, {prepare, 20, 28, ""}, {prepare, 0, 4, ""}, // longer and shorter
		{prepare, 0, 4, "\x00\x00\x00\x00"}, {prepare, 3, 4, "\x03"}, {prepare, 3, 4, "\x06"}, {prepare, 3, 4, "\x81"}, {prepare, 0, 1, "\x01"}, {prepare, 0, 4, "\xff\xff\xff\xff"}, // Kind
		{prepare, 7, 8, "\x07"}, {prepare, 6, 7, "\x01"}, {prepare, 4, 5, "\x80"}, {prepare, 11, 12, "\x07"}, {prepare, 10, 11, "\x01"}, {prepare, 8, 12, "\xff\xff\xff\xff"}, // From, To
		{prepare, 12, 16, "\x00\x00\x00\x00"}, {prepare, 12, 13, "\x80"}, {prepare, 12, 16, "\xff\xff\xff\xff"}, {prepare, 19, 20, "\x01"}, {prepare, 16, 17, "\x80"}, // Ballot, Slot
		{prepare, 23, 24, "\x01"}, {prepare, 20, 24, "\x00\x00\x00\x01\x00"}, {prepare, 20, 24, "\x00\x00\x00\x04\x00\x00\x00\x00"}, {prepare, 20, 24, "\xff\xff\xff\xff"}, // a text that it doesn't have
		{prepare, 27, 28, "\x01"}, {prepare, 24, 28, "\x00\x00\x00\x01\x00\x00\x00\x00"}, {prepare, 24, 28, "\xff\xff\xff\xff"}, {prepare, 24, 28, "\x00\x00\x00\x02\x00\x00\x00\x00\x00\x00\x00\x00"}, // a list that it doesn't have
		{accept, 20, 24, "\x00\x00\x00\x00"}, {accept, 23, 24, "\x1a"}, {accept, 23, 24, "\x1c"}, {accept, 23, 51, "\x00"}, // its text
		{accept, 27, 28, "\x01"}, {accept, 27, 28, "\x03"}, {accept, 31, 32, "\x40"}, {accept, 35, 36, "\x07"}, {accept, 35, 36, "\x09"}, {accept, 39, 40, "\x09"}, {accept, 39, 40, "\x00"}, {accept, 43, 44, "\x02"}, {accept, 47, 48, "\x02"}, {accept, 47, 48, "\x04"}, // its vote
		{accept, 15, 16, "\x07"}, {accept, 15, 16, "\x09"}, {accept, 19, 20, "\x02"}, {accept, 54, 55, "\x01"}, {accept, 55, 55, "\x00"}, // its Ballot and Slot, and the list
		{promise, 23, 24, "\x01"}, {promise, 27, 28, "\x01"}, {promise, 27, 28, "\x03"}, {promise, 27, 28, "\x00"}, {promise, 24, 25, "\x01"}, {promise, 31, 32, "\x1a"}, {promise, 31, 32, "\x1c"}, {promise, 90, 90, "\x00"}, {promise, 89, 90, ""}, // its list
		{promise, 35, 36, "\x01"}, {promise, 39, 40, "\x03"}, {promise, 39, 40, "\x04"}, {promise, 43, 44, "\x09"}, {promise, 43, 44, "\x0a"}, {promise, 47, 48, "\x09"}, {promise, 51, 52, "\x02"}, // its first vote
		{promise, 66, 67, "\x01"}, {promise, 70, 71, "\x02"}, {promise, 70, 71, "\x01"}, {promise, 70, 71, "\x40"}, {promise, 74, 75, "\x09"}, {promise, 82, 83, "\x02"}, {promise, 15, 16, "\x08"}, {promise, 19, 20, "\x01"}, // its second one, Ballot and Slot
	} {
		wrongForm(t, frameOf(join(c.of[:c.at], []byte(c.instead), c.of[c.to:])))
	}
}

// A frame has no other bytes around it, and just one is read.
func TestGetOfFramesAmongOthers(t *testing.T) {
	for _, m := range ones() {
		b := bytesOf(m)
		for _, more := range []string{"\x00", "\x01", "\xff\xff\xff\xff", "x", string(frameOf(nil)), string(b), of(1 << 16)} {
			wrongForm(t, join(b, []byte(more)))
			wrongForm(t, join([]byte(more), b))
		}
	}
}

// In the places of votes stand their records alone: no promise's, no other spelling.
func TestGetOfOtherVotes(t *testing.T) {
	promise := join(num(1), num(7))
	for _, rec := range [][]byte{
		{}, {0}, num(2), promise, voteRec(vote(64, 7)), voteRec(vote(0, 9)), append(voteRec(vote(0, 7)), 0), voteRec(vote(0, 7))[:26], join(promise, voteRec(vote(0, 7))), frameOf(voteRec(vote(0, 7))),
		join(num(2), num(0), num(7), num(7), num(2), num(0)), join(num(2), num(0), num(7), num(7), num(1<<31), num(0)), join(num(3), num(0), num(7), num(7), num(0), num(0)), make([]byte, 24), make([]byte, 1024),
	} {
		wrongForm(t, frameOf(spelt(api.Msg{Kind: 2, Ballot: 8}, nil, rec)))
		wrongForm(t, frameOf(spelt(api.Msg{Kind: 2, Ballot: 8}, nil, rec, voteRec(vote(60, 7)))))
		wrongForm(t, frameOf(spelt(api.Msg{Kind: 2, Ballot: 8}, nil, voteRec(vote(0, 7)), rec)))
		wrongForm(t, frameOf(spelt(api.Msg{Kind: 3, Ballot: 7}, rec)))
		for kind := range 7 {
			for _, ballot := range []int{7, 8, 9} {
				checkGet(t, frameOf(spelt(api.Msg{Kind: kind, Ballot: ballot}, rec)))
				checkGet(t, frameOf(spelt(api.Msg{Kind: kind, Ballot: ballot}, nil, rec)))
				checkGet(t, frameOf(spelt(api.Msg{Kind: kind, Ballot: ballot}, rec, rec)))
			}
		}
	}
}

// What isn't right isn't read, though its bytes are spelt as a right one's.
func TestGetOfWrongOnes(t *testing.T) {
	for _, m := range changed(ones()) {
		checkGet(t, bytesOf(m))
	}
}

// Many texts, and as many as a frame may have: none is a message, and all ends.
func TestGetOfManyTexts(t *testing.T) {
	for _, n := range []int{64, 65, 1000, 16376} {
		wrongForm(t, frameOf(spelt(api.Msg{Kind: 2, Ballot: 8}, nil, make([][]byte, n)...)))
	}
	var l [][]byte
	for n := range 300 {
		l = append(l, voteRec(api.Vote{Slot: n % 64, Ballot: 7, Origin: 7}))
		if b := frameOf(spelt(api.Msg{Kind: 2, Ballot: 8}, nil, l...)); n >= 64 {
			wrongForm(t, b)
		} else {
			checkGet(t, b)
		}
	}
}

// Records with bytes left out and put in, in a frame that is right.
func TestGetOfParts(t *testing.T) {
	for _, m := range ones() {
		rec := recordOf(m)
		for n := range len(rec) {
			wrongForm(t, frameOf(rec[:n]))
			checkGet(t, frameOf(rec[n+1:]))
			checkGet(t, frameOf(join(rec[:n], rec[n+1:])))
			checkGet(t, frameOf(join(rec[:n], []byte{0}, rec[n:])))
		}
	}
}

// Each byte of a record changed to many others, in a frame that is right.
func TestGetOfChangedRecords(t *testing.T) {
	for _, m := range ones() {
		rec := recordOf(m)
		for at := range rec {
			other := bytes.Clone(rec)
			for v := 0; v < 256; v++ {
				if at > 120 && v > 3 && v < 253 {
					continue
				}
				other[at] = byte(v)
				checkGet(t, frameOf(other))
			}
		}
	}
}

// Small numbers in all places.
func TestGetOfSmallNumbers(t *testing.T) {
	for kind := range 7 {
		for slot := range 3 {
			for length := range 4 {
				for count := range 4 {
					for more := range 10 {
						checkGet(t, frameOf(join(num(kind), num(6), num(5), num(1), num(slot), num(length), make([]byte, length), num(count), make([]byte, more))))
						checkGet(t, frameOf(join(num(kind), num(6), num(5), num(1), num(slot), num(length), num(count), make([]byte, more))))
						checkGet(t, frameOf(join(num(kind), num(6), num(5), num(1), num(slot), num(0), num(count), bytes.Repeat(num(0), more))))
					}
				}
			}
		}
		for n := range 300 {
			checkGet(t, frameOf(join(num(kind), make([]byte, n))))
			checkGet(t, frameOf(bytes.Repeat(num(kind), n)))
		}
	}
}

func FuzzGet(f *testing.F) {
	for _, m := range ones() {
		f.Add(recordOf(m), bytesOf(m))
	}
	f.Fuzz(func(t *testing.T, rec, b []byte) {
		checkGet(t, frameOf(rec))
		checkGet(t, b)
	})
}

func TestSameByTheLetter(t *testing.T) {
	a := api.Msg{Kind: 2, From: 1, To: 2, Ballot: 3, Slot: 4, Vote: vote(5, 6), Votes: []api.Vote{vote(7, 8), vote(9, 10)}}
	b := api.Msg{Kind: 2, From: 1, To: 2, Ballot: 3, Slot: 4, Vote: vote(5, 6), Votes: []api.Vote{vote(7, 8), vote(9, 10)}}
	if !msg.Same(a, b) || !msg.Same(a, a) || !msg.Same(api.Msg{}, api.Msg{}) {
		t.Error("alike ones aren't")
	}
	for i, change := range []func(m *api.Msg){
		func(m *api.Msg) { m.Kind++ }, func(m *api.Msg) { m.From++ }, func(m *api.Msg) { m.To++ }, func(m *api.Msg) { m.Ballot++ }, func(m *api.Msg) { m.Slot++ },
		func(m *api.Msg) { m.From, m.To = m.To, m.From }, func(m *api.Msg) { m.Ballot, m.Slot = m.Slot, m.Ballot },
		func(m *api.Msg) { m.Vote.Slot++ }, func(m *api.Msg) { m.Vote.Ballot++ }, func(m *api.Msg) { m.Vote.Origin++ }, func(m *api.Msg) { m.Vote.Full = true }, func(m *api.Msg) { m.Vote.Bytes = "xyy" }, func(m *api.Msg) { m.Vote.Bytes = "" },
		func(m *api.Msg) { m.Vote = api.Vote{} }, func(m *api.Msg) { m.Votes = nil }, func(m *api.Msg) { m.Votes = m.Votes[:1] }, func(m *api.Msg) { m.Votes = m.Votes[1:] }, func(m *api.Msg) { m.Votes = append(m.Votes, vote(11, 12)) },
		func(m *api.Msg) { m.Votes = append(m.Votes, api.Vote{}) }, func(m *api.Msg) { m.Votes = []api.Vote{m.Votes[1], m.Votes[0]} },
		func(m *api.Msg) { m.Votes[0].Slot++ }, func(m *api.Msg) { m.Votes[1].Slot++ }, func(m *api.Msg) { m.Votes[0].Ballot++ }, func(m *api.Msg) { m.Votes[1].Origin++ }, func(m *api.Msg) { m.Votes[0].Full = true }, func(m *api.Msg) { m.Votes[1].Bytes = "xy" },
		func(m *api.Msg) { m.Votes[1].Bytes = "xyz\x00" }, func(m *api.Msg) { m.Kind += 1 << 32 }, func(m *api.Msg) { m.Slot += 1 << 32 },
	} {
		c := b
		c.Votes = slices.Clone(b.Votes)
		change(&c)
		if msg.Same(a, c) || msg.Same(c, a) || !msg.Same(c, c) {
			t.Errorf("%d: %s and %s", i, say(a), say(c))
		}
	}
	for _, m := range ones() {
		if len(m.Votes) == 0 {
			n := m
			m.Votes, n.Votes = nil, []api.Vote{}
			if !msg.Same(m, n) || !msg.Same(n, m) {
				t.Errorf("%s isn't alike with an empty list", say(m))
			}
		}
	}
}

func TestSame(t *testing.T) {
	all := append(changed(ones()[3:4]), changed(ones()[7:8])...)
	for i, a := range all {
		if i%5 > 0 {
			continue
		}
		for k, b := range all {
			if k%3 > 0 && i != k {
				continue
			}
			want := a.Kind == b.Kind && a.From == b.From && a.To == b.To && a.Ballot == b.Ballot && a.Slot == b.Slot && a.Vote == b.Vote && len(a.Votes) == len(b.Votes)
			for j := range a.Votes {
				want = want && a.Votes[j] == b.Votes[j]
			}
			if got := msg.Same(a, b); got != want || msg.Same(b, a) != want {
				t.Errorf("Same(%s, %s) = %v", say(a), say(b), got)
			}
		}
	}
}

// P19.2

// madeUp is a right message, the same each time.
func madeUp(r *rand.Rand) api.Msg {
	m := api.Msg{Kind: 1 + r.Intn(5), From: r.Intn(7), To: r.Intn(7), Ballot: 2 + r.Intn(mostBallot-1)}
	made := func(slot, ballot int) api.Vote {
		b := make([]byte, r.Intn(mostBytes+1)/(1+r.Intn(8)))
		r.Read(b)
		return api.Vote{Slot: slot, Ballot: ballot, Origin: 1 + r.Intn(ballot), Full: r.Intn(2) == 1, Bytes: string(b)}
	}
	switch m.Kind {
	case 2:
		for n := r.Intn(64); n < 64; n += 1 + r.Intn(20) {
			m.Votes = append(m.Votes, made(n, 1+r.Intn(m.Ballot-1)))
		}
	case 3:
		m.Vote = made(r.Intn(64), m.Ballot)
	case 4:
		m.Slot = r.Intn(64)
	}
	return m
}

func TestWrittenAndReadOfMadeUpOnes(t *testing.T) {
	r := rand.New(rand.NewSource(192))
	for range 8000 {
		m := madeUp(r)
		checkPut(t, m)
		b, e := msg.Put(m)
		n, f := msg.Get(b)
		again, g := msg.Put(n)
		if e != api.OK || f != api.OK || g != api.OK || !same(m, n) || !msg.Same(m, n) || !bytes.Equal(again, b) {
			t.Errorf("%s, %d was read as %s, %d, and written again %d", say(m), e, say(n), f, g)
		}
		at := r.Intn(len(b))
		b[at] ^= byte(1 + r.Intn(255))
		wrongForm(t, b)
		// With a right frame around it, too, it is no longer that message.
		rec := b[12:]
		if at >= 12 {
			checkGet(t, frameOf(rec))
			if n, e := msg.Get(frameOf(rec)); e == api.OK && msg.Same(m, n) {
				t.Errorf("byte %d of %s changed: the same", at, say(m))
			}
		}
	}
}

// Each byte turned by whatever number; of the longest one by a few, at some places.
func TestTurned(t *testing.T) {
	for _, m := range ones() {
		b, _ := msg.Put(m)
		for at := range b {
			for by := 1; by < 256; by++ {
				if at > 120 && by&(by-1) > 0 && by != 255 {
					continue
				}
				b[at] ^= byte(by)
				if n, e := msg.Get(b); !nothing(n) || e != api.ErrForm {
					t.Errorf("byte %d of %s turned by %d: %s, %d", at, say(m), by, say(n), e)
				}
				b[at] ^= byte(by)
			}
		}
	}
	b, _ := msg.Put(longest())
	for at := 0; at < len(b); at += 97 {
		b[at] ^= 0x10
		wrongForm(t, b)
		b[at] ^= 0x10
	}
}

// Beginnings and ends: nothing is read of what isn't whole.
func TestTorn(t *testing.T) {
	for _, m := range ones() {
		b, _ := msg.Put(m)
		for n := range b {
			wrongForm(t, b[:n])
			wrongForm(t, b[n+1:])
		}
	}
	b, _ := msg.Put(longest())
	for n := 0; n < len(b); n += 131 {
		wrongForm(t, b[:n])
	}
}

// No two that are right share their bytes.
func TestNoTwoAreAlike(t *testing.T) {
	seen := map[string]api.Msg{}
	for _, m := range changed(ones()) {
		b, e := msg.Put(m)
		if e != api.OK {
			continue
		}
		if n, ok := seen[string(b)]; ok && !same(m, n) {
			t.Errorf("%s and %s have the same bytes", say(m), say(n))
		}
		seen[string(b)] = m
	}
	if len(seen) < 200 {
		t.Errorf("only %d are right", len(seen))
	}
}

// P19.3

// writeOver changes all that can be reached of an answer, to its capacity.
func writeOver(b []byte) {
	b = b[:cap(b)]
	for i := range b {
		b[i] ^= 0xa5
	}
}

func TestWhatIsHandedInStays(t *testing.T) {
	behind := api.Vote{Slot: 9, Ballot: 9, Origin: 9, Bytes: "behind"}
	for _, m := range changed(ones()) {
		// What stands behind the list's end is the caller's, too.
		m.Votes = append(slices.Clone(m.Votes), behind)
		n := len(m.Votes) - 1
		before := slices.Clone(m.Votes)
		m.Votes = m.Votes[:n]
		msg.Right(m)
		msg.Put(m)
		msg.Same(m, m)
		if !slices.Equal(m.Votes[:n+1], before) {
			t.Errorf("what was handed in was changed: %s", say(m))
		}
	}
	for _, m := range append(ones(), longest(), api.Msg{}, api.Msg{Kind: 9, Ballot: 1}) {
		for _, b := range [][]byte{bytesOf(m), recordOf(m), bytesOf(m)[:30]} {
			room := append(bytes.Clone(b), "behind"...)
			before := bytes.Clone(room)
			msg.Get(room[:len(b)])
			if !bytes.Equal(room, before) {
				t.Errorf("Get of %s left %s", short(b), short(room))
			}
		}
	}
}

func TestWhatIsReadIsNewMemory(t *testing.T) {
	for _, want := range append(ones(), longest()) {
		b := bytesOf(want)
		m, _ := msg.Get(b)
		other, _ := msg.Get(b)
		writeOver(b)
		if !same(m, want) {
			t.Errorf("the bytes that were read are others, and so is %s, want %s", say(m), say(want))
		}
		votes := m.Votes[:cap(m.Votes)]
		for i := range votes {
			votes[i] = api.Vote{Slot: -1}
		}
		third, _ := msg.Get(bytesOf(want))
		if !same(other, want) || !same(third, want) {
			t.Errorf("other answers are changed with one: %s and %s, want %s", say(other), say(third), say(want))
		}
	}
}

func TestWhatIsWrittenIsNewMemory(t *testing.T) {
	for _, m := range append(ones(), longest()) {
		first, _ := msg.Put(m)
		other, _ := msg.Put(m)
		writeOver(first)
		third, _ := msg.Put(m)
		if want := bytesOf(m); !bytes.Equal(other, want) || !bytes.Equal(third, want) {
			t.Errorf("Put%s after its answer was written over: %s and %s", say(m), short(other), short(third))
		}
	}
}

// P1: no call panics, whatever it is given.
func TestAllEnds(t *testing.T) {
	all := changed(ones())
	for i, m := range all {
		msg.Right(m)
		msg.Put(m)
		msg.Same(m, all[len(all)-1-i])
	}
	r := rand.New(rand.NewSource(1))
	for range 2000 {
		b := make([]byte, r.Intn(200))
		r.Read(b)
		msg.Get(b)
		msg.Get(frameOf(b))
	}
}
