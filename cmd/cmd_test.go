package cmd_test

import (
	"encoding/binary"
	"encoding/hex"
	"fmt"
	"math"
	"math/rand"
	"slices"
	"strings"
	"testing"

	"shardlog/api"
	"shardlog/cmd"
)

const (
	mostClient = 16
	mostSeq    = 1<<31 - 1
	mostAt     = 1<<32 - 1
	mostText   = 64
	mostLong   = 256
	mostBytes  = 512
)

// The words of the chapter once more, by the Go library alone.

// isRight tells whether all but its length is right.
func isRight(c api.Cmd) bool {
	if c.Client < 1 || c.Client > mostClient || c.Seq < 1 || c.Seq > mostSeq || c.At < 0 || c.At > mostAt {
		return false
	}
	name := len(c.Row) > 0 && len(c.Row) <= mostText && len(c.Col) > 0 && len(c.Col) <= mostText
	switch c.Kind {
	case api.CmdPut:
		return name && c.To == "" && len(c.Value) <= mostLong && c.Expect == "" && !c.Has
	case api.CmdDelete, api.CmdGet:
		return name && c.To == "" && c.Value == "" && c.Expect == "" && !c.Has
	case api.CmdCheck:
		if !c.Has && len(c.Expect) > 0 {
			return false
		}
		return name && c.To == "" && len(c.Value) <= mostLong && len(c.Expect) <= mostLong
	case api.CmdScan:
		return len(c.Row) <= mostText && len(c.To) <= mostText && c.Col == "" && c.Value == "" && c.Expect == "" && !c.Has
	}
	return false
}

func num(n int) string { return string(binary.BigEndian.AppendUint32(nil, uint32(n))) }

func text(s string) string { return num(len(s)) + s }

// spelt is a command's bytes, of one that isn't right too, with whatever number in the
// place of Has.
func spelt(c api.Cmd, has int) string {
	return num(c.Client) + num(c.Seq) + num(c.Kind) + num(c.At) + num(has) +
		text(c.Row) + text(c.Col) + text(c.To) + text(c.Value) + text(c.Expect)
}

func bytesOf(c api.Cmd) string {
	if c.Has {
		return spelt(c, 1)
	}
	return spelt(c, 0)
}

// put is what Put answers.
func put(c api.Cmd) (string, api.Errno) {
	if !isRight(c) {
		return "", api.ErrArg
	}
	if s := bytesOf(c); len(s) <= mostBytes {
		return s, api.OK
	}
	return "", api.ErrBig
}

// get is what Get answers, told by places alone: nothing is cut off.
func get(s string) (api.Cmd, api.Errno) {
	at := 0
	number := func() int {
		at += 4
		if at > len(s) {
			return -1
		}
		return int(binary.BigEndian.Uint32([]byte(s[at-4 : at])))
	}
	words := func() string {
		n := number()
		if n < 0 || at+n > len(s) {
			at = len(s) + 1
			return ""
		}
		at += n
		return s[at-n : at]
	}
	c := api.Cmd{Client: number(), Seq: number(), Kind: number(), At: number()}
	has := number()
	c.Row, c.Col, c.To, c.Value, c.Expect, c.Has = words(), words(), words(), words(), words(), has == 1
	if at != len(s) || has < 0 || has > 1 || len(s) > mostBytes || !isRight(c) {
		return api.Cmd{}, api.ErrForm
	}
	return c, api.OK
}

func of(n int) string { return strings.Repeat("n", n) }

// say is a command in a message: the longest texts would fill the screen.
func say(c api.Cmd) string {
	return fmt.Sprintf("(client %d seq %d kind %d row %.20q col %.20q to %.20q at %d value %.20q expect %.20q has %v; %d bytes)",
		c.Client, c.Seq, c.Kind, c.Row, c.Col, c.To, c.At, c.Value, c.Expect, c.Has, len(bytesOf(c)))
}

func short(s string) string {
	if len(s) > 80 {
		return hex.EncodeToString([]byte(s[:80])) + ".."
	}
	return hex.EncodeToString([]byte(s))
}

// checkPut holds Right, Put and, of a right one, Writes against the chapter's words,
// and reads what was put.
func checkPut(t *testing.T, c api.Cmd) {
	t.Helper()
	want, wantE := put(c)
	if s, e := cmd.Put(c); s != want || e != wantE {
		t.Errorf("Put%s = %s, %d, want %s, %d", say(c), short(s), e, short(want), wantE)
	}
	if got := cmd.Right(c); got != (wantE == api.OK) {
		t.Errorf("Right%s = %v", say(c), got)
	}
	got := cmd.Writes(c)
	if wantE != api.OK {
		return
	}
	if got != (c.Kind == api.CmdPut || c.Kind == api.CmdDelete || c.Kind == api.CmdCheck) {
		t.Errorf("Writes%s = %v", say(c), got)
	}
	if d, e := cmd.Get(want); d != c || e != api.OK {
		t.Errorf("Get of the bytes of %s = %s, %d", say(c), say(d), e)
	}
}

// checkGet holds Get against the chapter's words, and puts what was read.
func checkGet(t *testing.T, s string) {
	t.Helper()
	want, wantE := get(s)
	c, e := cmd.Get(s)
	if c != want || e != wantE {
		t.Errorf("Get of %s (%d bytes) = %s, %d, want %s, %d", short(s), len(s), say(c), e, say(want), wantE)
	}
	if e != api.OK {
		return
	}
	if again, f := cmd.Put(c); again != s || f != api.OK || !cmd.Right(c) {
		t.Errorf("%s was read as %s, and is written as %s, %d", short(s), say(c), short(again), f)
	}
}

// one is a right command of each kind, with all that the kind has.
func one(kind int) api.Cmd {
	c := api.Cmd{Client: 3, Seq: 70000, Kind: kind, Row: "row", At: 258}
	switch kind {
	case api.CmdPut:
		c.Col, c.Value = "col", "value"
	case api.CmdCheck:
		c.Col, c.Value, c.Expect, c.Has = "col", "value", "expect", true
	case api.CmdScan:
		c.To = "to"
	default:
		c.Col = "col"
	}
	return c
}

func allOnes() []api.Cmd {
	var l []api.Cmd
	for kind := api.CmdPut; kind <= api.CmdScan; kind++ {
		l = append(l, one(kind))
	}
	none := one(api.CmdCheck)
	none.Expect, none.Has = "", false
	return append(l, none)
}

func clients() []int {
	return []int{math.MinInt, -1 << 32, -mostClient, -1, 0, 1, 2, 3, 15, 16, 17, 32, 256, 1<<32 + 1, math.MaxInt}
}

func seqs() []int {
	return []int{math.MinInt, -mostSeq, -1, 0, 1, 2, 255, 256, 1 << 16, 1 << 24, mostSeq - 1, mostSeq, mostSeq + 1, mostAt, mostAt + 1, 1<<32 + 1, math.MaxInt}
}

func kinds() []int {
	return []int{math.MinInt, -1 << 32, -5, -1, 0, 1, 2, 3, 4, 5, 6, 7, 8, 255, 257, 1<<32 + 1, 1<<32 + 4, math.MaxInt}
}

func times() []int {
	return []int{math.MinInt, math.MinInt + 1, -1 << 32, -1, 0, 1, 258, 1<<31 - 1, 1 << 31, mostAt - 1, mostAt, mostAt + 1, 1<<32 + 1, math.MaxInt}
}

// names also have such as have few letters, but too many bytes.
func names() []string {
	return []string{"", "a", "\x00", "\xff\xfe", "gr\u00fc\u00df", of(63), of(64), of(65), of(66), of(128), of(256), strings.Repeat("\u00e9", 32), strings.Repeat("\u00e9", 33), of(1 << 16)}
}

func values() []string {
	return []string{"", "v", "\x00", "\xff", of(64), of(65), of(255), of(256), of(257), of(512), strings.Repeat("\u00e9", 128), strings.Repeat("\u00e9", 129), of(1 << 16)}
}

// changes are ways to set one thing of a command, by the thing.
func changes() [][]func(*api.Cmd) {
	numbers := func(l []int, set func(*api.Cmd, int)) []func(*api.Cmd) {
		var fs []func(*api.Cmd)
		for _, n := range l {
			fs = append(fs, func(c *api.Cmd) { set(c, n) })
		}
		return fs
	}
	texts := func(l []string, set func(*api.Cmd, string)) []func(*api.Cmd) {
		var fs []func(*api.Cmd)
		for _, s := range l {
			fs = append(fs, func(c *api.Cmd) { set(c, s) })
		}
		return fs
	}
	return [][]func(*api.Cmd){
		numbers(clients(), func(c *api.Cmd, n int) { c.Client = n }),
		numbers(seqs(), func(c *api.Cmd, n int) { c.Seq = n }),
		numbers(kinds(), func(c *api.Cmd, n int) { c.Kind = n }),
		numbers(times(), func(c *api.Cmd, n int) { c.At = n }),
		numbers([]int{0, 1}, func(c *api.Cmd, n int) { c.Has = n == 1 }),
		texts(names(), func(c *api.Cmd, s string) { c.Row = s }),
		texts(names(), func(c *api.Cmd, s string) { c.Col = s }),
		texts(names(), func(c *api.Cmd, s string) { c.To = s }),
		texts(values(), func(c *api.Cmd, s string) { c.Value = s }),
		texts(values(), func(c *api.Cmd, s string) { c.Expect = s }),
	}
}

// some are many commands, right and not.
func some() []api.Cmd {
	l := allOnes()
	for _, c := range allOnes() {
		for _, fs := range changes() {
			for _, f := range fs {
				d := c
				f(&d)
				l = append(l, d)
			}
		}
	}
	return l
}

// P15.1

func TestPutByTheLetter(t *testing.T) {
	for _, c := range []struct {
		c    api.Cmd
		want string
	}{
		{api.Cmd{Client: 1, Seq: 7, Kind: api.CmdGet, Row: "r", Col: "c", At: 258},
			"00000001" + "00000007" + "00000004" + "00000102" + "00000000" + "0000000172" + "0000000163" + "00000000" + "00000000" + "00000000"},
		{api.Cmd{Client: 16, Seq: mostSeq, Kind: api.CmdPut, Row: "r", Col: "c", At: mostAt, Value: "val"},
			"00000010" + "7fffffff" + "00000001" + "ffffffff" + "00000000" + "0000000172" + "0000000163" + "00000000" + "0000000376616c" + "00000000"},
		{api.Cmd{Client: 2, Seq: 256, Kind: api.CmdPut, Row: "r", Col: "c"},
			"00000002" + "00000100" + "00000001" + "00000000" + "00000000" + "0000000172" + "0000000163" + "00000000" + "00000000" + "00000000"},
		{api.Cmd{Client: 2, Seq: 1, Kind: api.CmdDelete, Row: "ro", Col: "co", At: 1},
			"00000002" + "00000001" + "00000002" + "00000001" + "00000000" + "00000002726f" + "00000002636f" + "00000000" + "00000000" + "00000000"},
		{api.Cmd{Client: 3, Seq: 1 << 24, Kind: api.CmdCheck, Row: "\x00", Col: "\xff", At: 1 << 16, Value: "v", Expect: "ex", Has: true},
			"00000003" + "01000000" + "00000003" + "00010000" + "00000001" + "0000000100" + "00000001ff" + "00000000" + "0000000176" + "000000026578"},
		{api.Cmd{Client: 3, Seq: 5, Kind: api.CmdCheck, Row: "r", Col: "c", Has: true},
			"00000003" + "00000005" + "00000003" + "00000000" + "00000001" + "0000000172" + "0000000163" + "00000000" + "00000000" + "00000000"},
		{api.Cmd{Client: 3, Seq: 5, Kind: api.CmdCheck, Row: "r", Col: "c", Value: "v"},
			"00000003" + "00000005" + "00000003" + "00000000" + "00000000" + "0000000172" + "0000000163" + "00000000" + "0000000176" + "00000000"},
		{api.Cmd{Client: 4, Seq: 6, Kind: api.CmdScan, Row: "a", To: "bc", At: 9},
			"00000004" + "00000006" + "00000005" + "00000009" + "00000000" + "0000000161" + "00000000" + "000000026263" + "00000000" + "00000000"},
		{api.Cmd{Client: 4, Seq: 6, Kind: api.CmdScan},
			"00000004" + "00000006" + "00000005" + "00000000" + "00000000" + "00000000" + "00000000" + "00000000" + "00000000" + "00000000"},
	} {
		s, e := cmd.Put(c.c)
		if hex.EncodeToString([]byte(s)) != c.want || e != api.OK || !cmd.Right(c.c) {
			t.Errorf("Put%s = %x, %d, want %s", say(c.c), s, e, c.want)
		}
		want, _ := hex.DecodeString(c.want)
		if d, e := cmd.Get(string(want)); d != c.c || e != api.OK {
			t.Errorf("Get of %s = %s, %d, want %s", c.want, say(d), e, say(c.c))
		}
		checkPut(t, c.c)
	}
}

// Wrong in one thing alone each, but for the first ones.
func TestWrongByTheLetter(t *testing.T) {
	for i, c := range []api.Cmd{
		{}, {Kind: api.CmdScan}, {Client: 1, Seq: 1},
		{Seq: 1, Kind: api.CmdScan}, {Client: -1, Seq: 1, Kind: api.CmdScan}, {Client: 17, Seq: 1, Kind: api.CmdScan},
		{Client: 1, Kind: api.CmdScan}, {Client: 1, Seq: -1, Kind: api.CmdScan}, {Client: 1, Seq: 1 << 31, Kind: api.CmdScan},
		{Client: 1, Seq: 1, Row: "r"}, {Client: 1, Seq: 1, Kind: -1}, {Client: 1, Seq: 1, Kind: 6},
		{Client: 1, Seq: 1, Kind: api.CmdGet, Row: "r"}, {Client: 1, Seq: 1, Kind: api.CmdGet, Col: "c"},
		{Client: 1, Seq: 1, Kind: api.CmdGet, Row: "r", Col: "c", At: -1}, {Client: 1, Seq: 1, Kind: api.CmdGet, Row: "r", Col: "c", At: 1 << 32},
		{Client: 1, Seq: 1, Kind: api.CmdGet, Row: "r", Col: "c", To: "t"}, {Client: 1, Seq: 1, Kind: api.CmdGet, Row: "r", Col: "c", Value: "v"},
		{Client: 1, Seq: 1, Kind: api.CmdGet, Row: "r", Col: "c", Has: true}, {Client: 1, Seq: 1, Kind: api.CmdGet, Row: "r", Col: "c", Expect: "e"},
		{Client: 1, Seq: 1, Kind: api.CmdPut, Row: "r", Col: "c", To: "t"}, {Client: 1, Seq: 1, Kind: api.CmdPut, Row: "r", Col: "c", Has: true},
		{Client: 1, Seq: 1, Kind: api.CmdPut, Row: "r", Col: "c", Value: of(257)}, {Client: 1, Seq: 1, Kind: api.CmdPut, Row: of(65), Col: "c"},
		{Client: 1, Seq: 1, Kind: api.CmdDelete, Row: "r", Col: "c", Value: "v"}, {Client: 1, Seq: 1, Kind: api.CmdDelete, Row: "r", Col: "c", Has: true, Expect: "e"},
		{Client: 1, Seq: 1, Kind: api.CmdDelete, Row: "r", Col: of(65)}, {Client: 1, Seq: 1, Kind: api.CmdDelete, Row: "r", Col: "c", At: -1},
		{Client: 1, Seq: 1, Kind: api.CmdCheck, Row: "r", Col: "c", Expect: "e"}, {Client: 1, Seq: 1, Kind: api.CmdCheck, Row: "r", Col: "c", To: "t", Has: true},
		{Client: 1, Seq: 1, Kind: api.CmdCheck, Row: "r", Col: "c", Has: true, Expect: of(257)}, {Client: 1, Seq: 1, Kind: api.CmdCheck, Row: "r", Col: "c", Value: of(257)},
		{Client: 1, Seq: 1, Kind: api.CmdCheck, Row: "", Col: "c"}, {Client: 1, Seq: 1, Kind: api.CmdCheck, Row: "r", Col: ""},
		{Client: 1, Seq: 1, Kind: api.CmdScan, Row: of(65)}, {Client: 1, Seq: 1, Kind: api.CmdScan, To: of(65)}, {Client: 1, Seq: 1, Kind: api.CmdScan, Col: "c"},
		{Client: 1, Seq: 1, Kind: api.CmdScan, At: -1}, {Client: 1, Seq: 1, Kind: api.CmdScan, At: 1 << 32}, {Client: 1, Seq: 1, Kind: api.CmdScan, Value: "v"},
		{Client: 1, Seq: 1, Kind: api.CmdScan, Has: true}, {Client: 1, Seq: 1, Kind: api.CmdScan, Expect: "e"},
	} {
		if s, e := cmd.Put(c); s != "" || e != api.ErrArg || cmd.Right(c) {
			t.Errorf("%d: Put%s = %s, %d", i, say(c), short(s), e)
		}
		checkPut(t, c)
	}
}

// One thing, and two things, set to each of its edges, of each kind.
func TestPutAtTheEdges(t *testing.T) {
	all := changes()
	for _, c := range allOnes() {
		for i, fs := range all {
			for _, f := range fs {
				d := c
				f(&d)
				checkPut(t, d)
				for _, gs := range all[i+1:] {
					for _, g := range gs {
						both := d
						g(&both)
						checkPut(t, both)
					}
				}
			}
		}
	}
}

// Each thing with each other, right or not.
func TestPutOfAllTogether(t *testing.T) {
	short := []string{"", "a", of(64), of(65)}
	long := []string{"", "v", of(256), of(257)}
	for kind := -1; kind <= 6; kind++ {
		for _, row := range short {
			for _, col := range short {
				for _, to := range short {
					for _, at := range []int{-1, 0, mostAt, mostAt + 1} {
						for _, value := range long {
							for _, expect := range long {
								for _, has := range []bool{false, true} {
									checkPut(t, api.Cmd{Client: 16, Seq: mostSeq, Kind: kind, Row: row, Col: col, To: to, At: at, Value: value, Expect: expect, Has: has})
								}
							}
						}
					}
				}
			}
		}
	}
}

// Texts of all lengths around their edges.
func TestPutOfAllLengths(t *testing.T) {
	for _, c := range allOnes() {
		for n := range 300 {
			for _, d := range []struct{ row, col, to, value, expect string }{
				{of(n), c.Col, c.To, c.Value, c.Expect}, {c.Row, of(n), c.To, c.Value, c.Expect}, {c.Row, c.Col, of(n), c.Value, c.Expect},
				{c.Row, c.Col, c.To, of(n), c.Expect}, {c.Row, c.Col, c.To, c.Value, of(n)},
			} {
				e := c
				e.Row, e.Col, e.To, e.Value, e.Expect = d.row, d.col, d.to, d.value, d.expect
				checkPut(t, e)
			}
		}
	}
}

func TestBigByTheLetter(t *testing.T) {
	for _, c := range []struct {
		row, col, value, expect int
		want                    api.Errno
	}{
		{1, 1, 256, 214, api.OK}, {1, 1, 256, 215, api.ErrBig}, {1, 1, 214, 256, api.OK}, {1, 1, 215, 256, api.ErrBig},
		{64, 64, 256, 88, api.OK}, {64, 64, 256, 89, api.ErrBig}, {64, 64, 88, 256, api.OK}, {64, 64, 89, 256, api.ErrBig},
		{64, 64, 172, 172, api.OK}, {64, 64, 172, 173, api.ErrBig}, {64, 64, 256, 256, api.ErrBig}, {1, 1, 256, 256, api.ErrBig},
		{64, 64, 256, 257, api.ErrArg}, {64, 64, 257, 256, api.ErrArg}, {65, 64, 256, 256, api.ErrArg}, {64, 65, 256, 256, api.ErrArg}, {0, 64, 256, 256, api.ErrArg},
		{64, 64, 256, 0, api.OK}, {64, 64, 0, 256, api.OK},
	} {
		d := api.Cmd{Client: 1, Seq: 1, Kind: api.CmdCheck, Row: of(c.row), Col: of(c.col), Value: of(c.value), Expect: of(c.expect), Has: true}
		s, e := cmd.Put(d)
		if e != c.want || cmd.Right(d) != (c.want == api.OK) || (s == "") != (c.want != api.OK) {
			t.Errorf("Put%s = %s, %d, want %d", say(d), short(s), e, c.want)
		}
		checkPut(t, d)
		// What is too long and wrong is wrong.
		for _, f := range []func(*api.Cmd){
			func(d *api.Cmd) { d.Client = 17 }, func(d *api.Cmd) { d.Seq = 0 }, func(d *api.Cmd) { d.Has = false; d.Expect += "x" }, func(d *api.Cmd) { d.At = -1 },
			func(d *api.Cmd) { d.To = "t" }, func(d *api.Cmd) { d.Kind = api.CmdDelete }, func(d *api.Cmd) { d.Kind = 6 },
		} {
			wrong := d
			f(&wrong)
			if s, e := cmd.Put(wrong); s != "" || e != api.ErrArg {
				t.Errorf("Put%s = %s, %d", say(wrong), short(s), e)
			}
		}
	}
}

// All ways to have some 512 bytes: the names' lengths, and the values', around it.
func TestBig(t *testing.T) {
	for row := 1; row <= mostText; row += 7 {
		for col := 1; col <= mostText; col += 9 {
			for value := range mostLong + 2 {
				for more := -1; more <= 1; more++ {
					expect := mostBytes - 40 - row - col - value + more
					if expect < 0 {
						continue
					}
					checkPut(t, api.Cmd{Client: 1, Seq: 1, Kind: api.CmdCheck, Row: of(row), Col: of(col), Value: of(value), Expect: of(expect), Has: true})
				}
			}
		}
	}
}

func TestWrites(t *testing.T) {
	for _, c := range []struct {
		kind int
		want bool
	}{{api.CmdPut, true}, {api.CmdDelete, true}, {api.CmdCheck, true}, {api.CmdGet, false}, {api.CmdScan, false}} {
		if got := cmd.Writes(one(c.kind)); got != c.want {
			t.Errorf("kind %d: %v", c.kind, got)
		}
	}
	// A check writes whether it looks for a value, or for none, or writes an empty one.
	for _, c := range []api.Cmd{
		{Client: 1, Seq: 1, Kind: api.CmdCheck, Row: "r", Col: "c"}, {Client: 1, Seq: 1, Kind: api.CmdCheck, Row: "r", Col: "c", Has: true},
		{Client: 1, Seq: 1, Kind: api.CmdCheck, Row: "r", Col: "c", Value: "v", Expect: "v", Has: true}, {Client: 1, Seq: 1, Kind: api.CmdPut, Row: "r", Col: "c"},
	} {
		if !cmd.Writes(c) {
			t.Error(say(c))
		}
	}
}

// P15.2

// What isn't right isn't read, though its bytes are spelt as a right one's.
func TestGetOfWrongOnes(t *testing.T) {
	for _, c := range some() {
		checkGet(t, bytesOf(c))
		if s := bytesOf(c); !isRight(c) || len(s) > mostBytes {
			if _, e := get(s); e == api.OK {
				continue // a number beyond four bytes, whose spelling is another one's
			}
			if d, e := cmd.Get(s); d != (api.Cmd{}) || e != api.ErrForm {
				t.Errorf("%s was read as %s, %d", say(c), say(d), e)
			}
		}
	}
}

func TestGetByTheLetter(t *testing.T) {
	right := "\x00\x00\x00\x03\x00\x00\x00\x09\x00\x00\x00\x03\x00\x00\x01\x02\x00\x00\x00\x01\x00\x00\x00\x01r\x00\x00\x00\x01c\x00\x00\x00\x00\x00\x00\x00\x01v\x00\x00\x00\x01e"
	if c, e := cmd.Get(right); e != api.OK || c != (api.Cmd{Client: 3, Seq: 9, Kind: api.CmdCheck, Row: "r", Col: "c", At: 258, Value: "v", Expect: "e", Has: true}) {
		t.Fatal(say(c), e)
	}
	for _, c := range []struct {
		at, to int
		with   string
	}{
		{len(right), len(right), "\x00"}, {0, 0, "\x00"}, {0, 1, ""}, {len(right) - 1, len(right), ""}, {0, len(right), ""}, // longer, shorter, nothing
		{3, 4, "\x00"}, {3, 4, "\x11"}, {0, 1, "\x01"}, {7, 8, "\x00"}, {4, 5, "\x80"}, {11, 12, "\x00"}, {11, 12, "\x06"}, {10, 11, "\x01"}, // Client, Seq, Kind
		{11, 12, "\x01"}, {11, 12, "\x02"}, {11, 12, "\x04"}, {11, 12, "\x05"}, // the kinds that don't have it all
		{19, 20, "\x00"}, {19, 20, "\x02"}, {19, 20, "\xff"}, {16, 17, "\x01"}, {18, 19, "\x01"}, // Has
		{23, 24, "\x00"}, {23, 24, "\x02"}, {20, 21, "\x80"}, {23, 25, "\x00"}, {28, 30, "\x00"}, {33, 34, "\x01t"}, // Row, Col, To
		{37, 38, "\x00"}, {37, 38, "\x02"}, {42, 43, "\x00"}, {42, 43, "\x02"}, {39, 40, "\xff"}, // Value, Expect
	} {
		s := right[:c.at] + c.with + right[c.to:]
		if got, e := cmd.Get(s); got != (api.Cmd{}) || e != api.ErrForm {
			t.Errorf("%d to %d with %q: %s, %d", c.at, c.to, c.with, say(got), e)
		}
		checkGet(t, s)
	}
}

// bodies are bytes of right commands, short ones and the longest.
func bodies() []string {
	var l []string
	for _, c := range append(allOnes(),
		api.Cmd{Client: 1, Seq: 1, Kind: api.CmdScan}, api.Cmd{Client: 16, Seq: mostSeq, Kind: api.CmdGet, Row: of(64), Col: of(64), At: mostAt},
		api.Cmd{Client: 1, Seq: 1, Kind: api.CmdCheck, Row: of(64), Col: of(64), Value: of(256), Expect: of(88), Has: true},
		api.Cmd{Client: 1, Seq: 1, Kind: api.CmdPut, Row: "\x00", Col: "\x00\x00\x00\x00", Value: string(make([]byte, 256))}) {
		l = append(l, bytesOf(c))
	}
	return l
}

// Beginnings and ends of right ones, and more behind and ahead.
func TestGetOfParts(t *testing.T) {
	for _, s := range bodies() {
		for n := range len(s) {
			if c, e := cmd.Get(s[:n]); c != (api.Cmd{}) || e != api.ErrForm {
				t.Errorf("the first %d of %d bytes: %s, %d", n, len(s), say(c), e)
			}
			checkGet(t, s[n+1:])
			checkGet(t, s[:n]+s[n+1:])
			checkGet(t, s[:n]+"\x00"+s[n:])
		}
		for _, more := range []string{"\x00", "\x01", "\x00\x00\x00\x00", "\xff\xff\xff\xff", "x", s, of(512), of(1 << 16)} {
			if c, e := cmd.Get(s + more); c != (api.Cmd{}) || e != api.ErrForm {
				t.Errorf("%d more bytes: %s, %d", len(more), say(c), e)
			}
			checkGet(t, more+s)
		}
	}
}

// Each byte of right ones, changed to whatever else.
func TestGetOfChangedBytes(t *testing.T) {
	for _, s := range bodies() {
		for at := range s {
			for v := range 256 {
				checkGet(t, s[:at]+string([]byte{byte(v)})+s[at+1:])
			}
		}
	}
}

// Other numbers in the places of all ten.
func TestGetOfOtherNumbers(t *testing.T) {
	numbers := []int{0, 1, 2, 3, 4, 5, 6, 15, 16, 17, 63, 64, 65, 88, 214, 255, 256, 257, 512, 1 << 16, 1<<31 - 1, 1 << 31, 1<<32 - 256, mostAt}
	for _, c := range allOnes() {
		s := bytesOf(c)
		places := []int{0, 4, 8, 12, 16, 20}
		for _, part := range []string{c.Row, c.Col, c.To, c.Value} {
			places = append(places, places[len(places)-1]+4+len(part))
		}
		for _, at := range places {
			for _, n := range numbers {
				checkGet(t, s[:at]+num(n)+s[at+4:])
			}
		}
	}
}

// What stands in the place of Has is 0 or 1.
func TestGetOfOtherHas(t *testing.T) {
	for _, c := range allOnes() {
		c.Has = false
		for _, n := range []int{0, 1, 2, 3, 128, 255, 256, 257, 1 << 16, 1 << 24, 1<<24 + 1, mostAt} {
			checkGet(t, spelt(c, n))
			if d, e := cmd.Get(spelt(c, n)); n > 1 && (d != (api.Cmd{}) || e != api.ErrForm) {
				t.Errorf("%s with %d: %s, %d", say(c), n, say(d), e)
			}
		}
	}
}

// Commands that are too long by some bytes, and bytes that spell none.
func TestGetOfLongOnes(t *testing.T) {
	for expect := 80; expect <= 256; expect++ {
		c := api.Cmd{Client: 1, Seq: 1, Kind: api.CmdCheck, Row: of(64), Col: of(64), Value: of(256), Expect: of(expect), Has: true}
		d, e := cmd.Get(bytesOf(c))
		if expect <= 88 && (d != c || e != api.OK) || expect > 88 && (d != (api.Cmd{}) || e != api.ErrForm) {
			t.Errorf("%s: %s, %d", say(c), say(d), e)
		}
	}
	for _, s := range []string{"", "\x00", of(1 << 20), string(make([]byte, 40)), string(make([]byte, 1<<20)), strings.Repeat("\xff", 512), strings.Repeat("\x00\x00\x00\x01", 128)} {
		if c, e := cmd.Get(s); c != (api.Cmd{}) || e != api.ErrForm {
			t.Errorf("%s: %s, %d", short(s), say(c), e)
		}
	}
}

// Small numbers in all places, and behind each of the last five one byte or none,
// whether the number says so or not.
func TestGetOfShortBytes(t *testing.T) {
	for i := range 1 << 10 {
		for kind := range 7 {
			for has := range 3 {
				s := num(1) + num(1) + num(kind) + num(0) + num(has)
				for at := range 5 {
					s += num(i>>at&1) + of(i>>(5+at)&1)
				}
				checkGet(t, s)
			}
		}
	}
}

func FuzzGet(f *testing.F) {
	for _, s := range bodies() {
		f.Add(s)
	}
	f.Add(spelt(one(api.CmdCheck), 2))
	f.Add(bytesOf(one(api.CmdPut)) + "x")
	f.Fuzz(checkGet)
}

// P15.3

// madeUp is a command of whatever is near to the edges, the same each time.
func madeUp(r *rand.Rand) api.Cmd {
	word := func(most int) string {
		b := make([]byte, r.Intn(most+1))
		r.Read(b)
		return string(b)
	}
	c := api.Cmd{Client: 1 + r.Intn(16), Seq: 1 + r.Intn(mostSeq), Kind: 1 + r.Intn(5), Row: word(64), Col: word(64), At: r.Intn(mostAt + 1)}
	switch c.Kind {
	case api.CmdPut:
		c.Value = word(256)
	case api.CmdCheck:
		c.Value = word(256)
		if c.Has = r.Intn(3) > 0; c.Has {
			c.Expect = word(256)
		}
	case api.CmdScan:
		c.Col, c.To = "", word(64)
	}
	return c
}

func TestWrittenAndReadOfMadeUpOnes(t *testing.T) {
	r := rand.New(rand.NewSource(15))
	right := 0
	for range 20000 {
		c := madeUp(r)
		checkPut(t, c)
		s, e := cmd.Put(c)
		if e != api.OK {
			continue
		}
		right++
		d, f := cmd.Get(s)
		again, g := cmd.Put(d)
		if d != c || f != api.OK || again != s || g != api.OK {
			t.Errorf("%s was read as %s, %d, and written again %d", say(c), say(d), f, g)
		}
		// Some byte of it is another one, and so is what is read, if anything is.
		b := []byte(s)
		at := r.Intn(len(b))
		b[at] ^= byte(1 + r.Intn(255))
		checkGet(t, string(b))
		if d, e := cmd.Get(string(b)); e == api.OK && d == c {
			t.Errorf("byte %d of %s changed: the same", at, say(c))
		}
	}
	if right < 15000 {
		t.Errorf("only %d are right", right)
	}
}

// No two right commands share bytes, and none's are the beginning of another's.
func TestNoTwoAreAlike(t *testing.T) {
	bytes := map[string]api.Cmd{}
	for _, c := range some() {
		s, e := cmd.Put(c)
		if e != api.OK {
			continue
		}
		if d, ok := bytes[s]; ok && d != c {
			t.Errorf("%s and %s have the same bytes", say(c), say(d))
		}
		bytes[s] = c
	}
	var l []string
	for s := range bytes {
		l = append(l, s)
	}
	slices.Sort(l)
	for i := range l[1:] {
		if strings.HasPrefix(l[i+1], l[i]) {
			t.Errorf("%s begins with %s", say(bytes[l[i+1]]), say(bytes[l[i]]))
		}
	}
	if len(l) < 200 {
		t.Errorf("only %d are right", len(l))
	}
}

// The kinds' commands of the same words are told from each other.
func TestMovedWordsAreOthers(t *testing.T) {
	l := []api.Cmd{
		{Client: 1, Seq: 2, Kind: api.CmdGet, Row: "a", Col: "bc"}, {Client: 1, Seq: 2, Kind: api.CmdGet, Row: "ab", Col: "c"}, {Client: 2, Seq: 1, Kind: api.CmdGet, Row: "a", Col: "bc"},
		{Client: 1, Seq: 2, Kind: api.CmdDelete, Row: "a", Col: "bc"}, {Client: 1, Seq: 2, Kind: api.CmdPut, Row: "a", Col: "bc"}, {Client: 1, Seq: 2, Kind: api.CmdCheck, Row: "a", Col: "bc"},
		{Client: 1, Seq: 2, Kind: api.CmdCheck, Row: "a", Col: "bc", Has: true}, {Client: 1, Seq: 2, Kind: api.CmdCheck, Row: "a", Col: "bc", Value: "v", Has: true},
		{Client: 1, Seq: 2, Kind: api.CmdCheck, Row: "a", Col: "bc", Expect: "v", Has: true}, {Client: 1, Seq: 2, Kind: api.CmdScan, Row: "a"}, {Client: 1, Seq: 2, Kind: api.CmdScan, To: "a"},
		{Client: 1, Seq: 2, Kind: api.CmdScan, Row: "a", To: "a"}, {Client: 1, Seq: 2, Kind: api.CmdScan, Row: "a", At: 1},
	}
	for i, c := range l {
		checkPut(t, c)
		s, _ := cmd.Put(c)
		for _, d := range l[:i] {
			if again, _ := cmd.Put(d); again == s {
				t.Errorf("%s and %s have the same bytes", say(c), say(d))
			}
		}
	}
}

// P1: no call panics, whatever it is given; of what isn't right, Writes has no meaning,
// but ends.
func TestAllEnds(t *testing.T) {
	for _, c := range some() {
		cmd.Right(c)
		cmd.Put(c)
		cmd.Writes(c)
	}
	for _, kind := range kinds() {
		cmd.Writes(api.Cmd{Kind: kind})
		cmd.Writes(api.Cmd{Client: 1, Seq: 1, Kind: kind, Row: "r", Col: "c"})
	}
	long := strings.Repeat("\x00\x00\x00\x01", 1<<20)
	cmd.Get(long)
	checkPut(t, api.Cmd{Client: 1, Seq: 1, Kind: api.CmdCheck, Row: "r", Col: "c", Value: long, Expect: long, Has: true})
}

// What a call answers hangs on its arguments alone: other calls between change nothing.
func TestAnswersStay(t *testing.T) {
	l := some()
	first := make([]string, len(l))
	errs := make([]api.Errno, len(l))
	for i, c := range l {
		first[i], errs[i] = cmd.Put(c)
	}
	for i := len(l) - 1; i >= 0; i-- {
		if s, e := cmd.Put(l[i]); s != first[i] || e != errs[i] {
			t.Errorf("Put%s was %s, %d, and is %s, %d", say(l[i]), short(first[i]), errs[i], short(s), e)
		}
	}
}
