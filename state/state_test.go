package state_test

import (
	"fmt"
	"math"
	"math/rand"
	"slices"
	"sort"
	"strconv"
	"strings"
	"sync"
	"testing"

	"shardlog/api"
	"shardlog/state"
)

const (
	mostClient = 16
	mostSeq    = 1<<31 - 1
	mostAt     = 1<<32 - 1
)

// The words of the chapter once more: a list of all cells that were put, looked through
// from one end to the other, and beside it each client's last number and reply.

type model struct {
	cells   []api.Cell // in order, of each key what was put last
	seqs    map[int]int
	replies map[int]api.Reply
}

func newModel() *model {
	return &model{seqs: map[int]int{}, replies: map[int]api.Reply{}}
}

// isRight tells whether the command is right, its length too.
func isRight(c api.Cmd) bool {
	if c.Client < 1 || c.Client > mostClient || c.Seq < 1 || c.Seq > mostSeq || c.At < 0 || c.At > mostAt {
		return false
	}
	if 40+len(c.Row)+len(c.Col)+len(c.To)+len(c.Value)+len(c.Expect) > 512 {
		return false
	}
	named := len(c.Row) > 0 && len(c.Row) <= 64 && len(c.Col) > 0 && len(c.Col) <= 64 && c.To == ""
	unasked := c.Expect == "" && !c.Has
	switch c.Kind {
	case api.CmdPut:
		return named && unasked && len(c.Value) <= 256
	case api.CmdDelete, api.CmdGet:
		return named && unasked && c.Value == ""
	case api.CmdCheck:
		return named && len(c.Value) <= 256 && len(c.Expect) <= 256 && (c.Has || c.Expect == "")
	case api.CmdScan:
		return len(c.Row) <= 64 && len(c.To) <= 64 && c.Col == "" && c.Value == "" && unasked
	}
	return false
}

func ahead(a, b api.Cell) bool {
	if a.Row != b.Row {
		return a.Row < b.Row
	}
	if a.Col != b.Col {
		return a.Col < b.Col
	}
	return a.At > b.At
}

func (d *model) put(c api.Cell) api.Errno {
	for i, o := range d.cells {
		if o.Row == c.Row && o.Col == c.Col && o.At == c.At {
			d.cells[i] = c
			return api.OK
		}
	}
	if len(d.cells) == 400 {
		return api.ErrFull
	}
	d.cells = append(d.cells, c)
	sort.Slice(d.cells, func(i, j int) bool { return ahead(d.cells[i], d.cells[j]) })
	return api.OK
}

// visible is what a look at row and col finds at that time.
func (d *model) visible(row, col string, at int) (string, bool) {
	found := api.Cell{Gone: true}
	for _, c := range d.cells {
		if c.Row == row && c.Col == col && c.At <= at && (found.Row == "" || c.At > found.At) {
			found = c
		}
	}
	return found.Value, !found.Gone
}

func (d *model) scan(from, to string, at int) []api.Cell {
	var l []api.Cell
	for _, c := range d.cells {
		if c.Row < from || to != "" && c.Row >= to || c.Gone || c.At > at {
			continue
		}
		hidden := slices.ContainsFunc(d.cells, func(o api.Cell) bool {
			return o.Row == c.Row && o.Col == c.Col && o.At > c.At && o.At <= at
		})
		if !hidden && len(l) < 20 {
			l = append(l, c)
		}
	}
	return l
}

func (d *model) do(c api.Cmd) api.Reply {
	value := api.Cell{Row: c.Row, Col: c.Col, At: c.At, Value: c.Value}
	switch c.Kind {
	case api.CmdPut:
		return api.Reply{E: d.put(value)}
	case api.CmdDelete:
		value.Gone = true
		return api.Reply{E: d.put(value)}
	case api.CmdCheck:
		v, ok := d.visible(c.Row, c.Col, c.At)
		if c.Has && ok && v == c.Expect || !c.Has && !ok {
			e := d.put(value)
			return api.Reply{E: e, Did: e == api.OK}
		}
	case api.CmdGet:
		v, ok := d.visible(c.Row, c.Col, c.At)
		return api.Reply{Did: ok, Value: v}
	case api.CmdScan:
		return api.Reply{Cells: d.scan(c.Row, c.To, c.At)}
	}
	return api.Reply{}
}

func (d *model) apply(c api.Cmd) api.Reply {
	if !isRight(c) || c.Seq < d.seqs[c.Client] {
		return api.Reply{E: api.ErrArg}
	}
	if c.Seq > d.seqs[c.Client] {
		d.seqs[c.Client], d.replies[c.Client] = c.Seq, d.do(c)
	}
	return d.replies[c.Client]
}

func alike(a, b api.Reply) bool {
	return a.E == b.E && a.Did == b.Did && a.Value == b.Value && slices.Equal(a.Cells, b.Cells)
}

// Messages.

func sayCell(c api.Cell) string {
	mark := "="
	if c.Gone {
		mark = "!"
	}
	return fmt.Sprintf("%.20q %.20q %d%s%.20q", c.Row, c.Col, c.At, mark, c.Value)
}

// sayCells is some of them: all would fill the screen.
func sayCells(l []api.Cell) string {
	var b strings.Builder
	fmt.Fprintf(&b, "%d cells", len(l))
	for _, c := range l[:min(len(l), 12)] {
		b.WriteString(" (" + sayCell(c) + ")")
	}
	return b.String()
}

func say(c api.Cmd) string {
	return fmt.Sprintf("(client %d seq %d kind %d row %.20q col %.20q to %.20q at %d value %.20q expect %.20q has %v)",
		c.Client, c.Seq, c.Kind, c.Row, c.Col, c.To, c.At, c.Value, c.Expect, c.Has)
}

func sayReply(r api.Reply) string {
	return fmt.Sprintf("(error %d did %v value %.20q %s)", r.E, r.Did, r.Value, sayCells(r.Cells))
}

// What is handed in. A key is a row of one letter, and a column of another one.

func put(key string, at int, v string) api.Cmd {
	return api.Cmd{Kind: api.CmdPut, Row: key[:1], Col: key[1:], At: at, Value: v}
}

func del(key string, at int) api.Cmd {
	return api.Cmd{Kind: api.CmdDelete, Row: key[:1], Col: key[1:], At: at}
}

// first is a Check that none is there.
func first(key string, at int, v string) api.Cmd {
	return api.Cmd{Kind: api.CmdCheck, Row: key[:1], Col: key[1:], At: at, Value: v}
}

// swap is a Check that what is there is old.
func swap(key string, at int, old, v string) api.Cmd {
	return api.Cmd{Kind: api.CmdCheck, Row: key[:1], Col: key[1:], At: at, Value: v, Expect: old, Has: true}
}

func get(key string, at int) api.Cmd {
	return api.Cmd{Kind: api.CmdGet, Row: key[:1], Col: key[1:], At: at}
}

func scan(from, to string, at int) api.Cmd {
	return api.Cmd{Kind: api.CmdScan, Row: from, To: to, At: at}
}

func by(client, seq int, c api.Cmd) api.Cmd {
	c.Client, c.Seq = client, seq
	return c
}

func of(n int) string { return strings.Repeat("n", n) }

// cells are spelt as "ax9=v" (row a, column x, at 9, value v) or, of one that is gone,
// "ax9!".
func cells(s string) []api.Cell {
	var l []api.Cell
	for _, w := range strings.Fields(s) {
		end := strings.IndexAny(w, "=!")
		at, e := strconv.Atoi(w[2:end])
		if e != nil {
			panic(w)
		}
		l = append(l, api.Cell{Row: w[:1], Col: w[1:2], At: at, Value: w[end+1:], Gone: w[end] == '!'})
	}
	return l
}

// What a command may be answered.

func ok() api.Reply { return api.Reply{} }

func did() api.Reply { return api.Reply{Did: true} }

func failed(e api.Errno) api.Reply { return api.Reply{E: e} }

func value(v string) api.Reply { return api.Reply{Did: true, Value: v} }

func list(s string) api.Reply { return api.Reply{Cells: cells(s)} }

// wrong are commands that aren't right, each by one thing: they are of that client and
// number, but where just these are wrong.
func wrong(client, seq int) []api.Cmd {
	var l []api.Cmd
	add := func(c api.Cmd, f func(*api.Cmd)) {
		c = by(client, seq, c)
		f(&c)
		l = append(l, c)
	}
	for _, c := range []api.Cmd{put("ax", 1, "v"), del("ax", 1), first("ax", 1, "v"), swap("ax", 1, "v", "w"), get("ax", 1), scan("a", "b", 1)} {
		for _, n := range []int{math.MinInt, -1, 0, 17, 1<<32 + 1, math.MaxInt} {
			add(c, func(c *api.Cmd) { c.Client = n })
		}
		for _, n := range []int{math.MinInt, -1, 0, 1 << 31, 1<<32 + 1, math.MaxInt} {
			add(c, func(c *api.Cmd) { c.Seq = n })
		}
		for _, n := range []int{math.MinInt, -1, 0, 6, 257, 1<<32 + 1, math.MaxInt} {
			add(c, func(c *api.Cmd) { c.Kind = n })
		}
		for _, n := range []int{math.MinInt, -1, 1 << 32, math.MaxInt} {
			add(c, func(c *api.Cmd) { c.At = n })
		}
		add(c, func(c *api.Cmd) { c.Row = of(65) })
		add(c, func(c *api.Cmd) { c.Col = of(65) })
		add(c, func(c *api.Cmd) { c.Value = of(257) })
		add(c, func(c *api.Cmd) { c.Expect = of(257) })
		if c.Kind == api.CmdScan {
			add(c, func(c *api.Cmd) { c.Col = "x" })
			add(c, func(c *api.Cmd) { c.To = of(65) })
		} else {
			add(c, func(c *api.Cmd) { c.Row = "" })
			add(c, func(c *api.Cmd) { c.Col = "" })
			add(c, func(c *api.Cmd) { c.To = "t" })
		}
		if c.Kind != api.CmdPut && c.Kind != api.CmdCheck {
			add(c, func(c *api.Cmd) { c.Value = "v" })
		}
		if !c.Has {
			add(c, func(c *api.Cmd) { c.Expect = "e" })
		}
		if c.Kind != api.CmdCheck {
			add(c, func(c *api.Cmd) { c.Has = true })
		}
	}
	add(swap("ax", 1, of(256), of(256)), func(*api.Cmd) {}) // too long, and nothing else
	add(swap("ax", 1, of(256), of(215)), func(*api.Cmd) {})
	return append(l, api.Cmd{}, api.Cmd{Client: client, Seq: seq})
}

// pair is a state, and what the words say of it.
type pair struct {
	*testing.T
	s *state.State
	d *model
}

func begin(t *testing.T) *pair {
	t.Helper()
	s := state.New()
	if s == nil {
		t.Fatal("New is nil")
	}
	return &pair{t, s, newModel()}
}

func (p *pair) apply(c api.Cmd) api.Reply {
	p.Helper()
	got, want := p.s.Apply(c), p.d.apply(c)
	if !alike(got, want) {
		p.Errorf("Apply%s = %s\n\twant %s", say(c), sayReply(got), sayReply(want))
	}
	return got
}

// next applies the command as the client's next one.
func (p *pair) next(client int, c api.Cmd) api.Reply {
	p.Helper()
	return p.apply(by(client, p.d.seqs[client]+1, c))
}

// same holds all that is told of the state against the words.
func (p *pair) same(what string) {
	p.Helper()
	if got := p.s.Cells(); !slices.Equal(got, p.d.cells) {
		p.Errorf("%s: %s\n\twant %s", what, sayCells(got), sayCells(p.d.cells))
	}
	for client := -1; client <= mostClient+1; client++ {
		if got, want := p.s.Last(client), p.d.seqs[client]; got != want {
			p.Errorf("%s: Last(%d) = %d, want %d", what, client, got, want)
		}
	}
}

// steps applies commands of client 1, one by one, and holds each reply against the one
// that stands beside it.
type step struct {
	c    api.Cmd
	want api.Reply
}

func (p *pair) steps(l []step) {
	p.Helper()
	for i, x := range l {
		if got := p.next(1, x.c); !alike(got, x.want) {
			p.Errorf("%d: Apply%s = %s\n\twant %s", i, say(x.c), sayReply(got), sayReply(x.want))
		}
		p.same(fmt.Sprint("behind step ", i))
	}
}

// P16.1: New, Last

func TestNew(t *testing.T) {
	p := begin(t)
	p.same("new")
	for _, client := range []int{math.MinInt, -1 << 32, -16, -1, 0, 17, 18, 257, 1<<32 + 1, math.MaxInt} {
		if n := p.s.Last(client); n != 0 {
			t.Errorf("Last(%d) = %d", client, n)
		}
	}
	for client := 1; client <= mostClient; client++ {
		p.next(client, get("ax", mostAt))
		p.next(client, scan("", "", mostAt))
	}
	if len(p.s.Cells()) != 0 {
		t.Error("asked, it has cells")
	}
}

func TestLast(t *testing.T) {
	p := begin(t)
	for i, seq := range []int{1, 2, 3, 7, 8, 255, 256, 1 << 16, 1 << 30, mostSeq - 1, mostSeq} {
		for client := 1; client <= mostClient; client++ {
			if n := seq - client; n > 0 {
				p.apply(by(client, n, put("ax", i, "v")))
				if got := p.s.Last(client); got != n {
					t.Errorf("Last(%d) = %d, want %d", client, got, n)
				}
			}
		}
		p.same(fmt.Sprint("number ", seq))
	}
	// The greatest number is a client's last for ever.
	p.apply(by(2, mostSeq, put("ax", 99, "last")))
	for _, seq := range []int{mostSeq + 1, mostSeq - 1, 1, 0} {
		if r := p.apply(by(2, seq, put("ax", 99, "later"))); !alike(r, failed(api.ErrArg)) {
			t.Errorf("number %d behind the greatest one: %s", seq, sayReply(r))
		}
	}
	p.same("behind the greatest number")
	if p.s.Last(2) != mostSeq {
		t.Error(p.s.Last(2))
	}
}

// Each client has its own numbers and replies, and none has another's.
func TestClientsAreApart(t *testing.T) {
	p := begin(t)
	for client := 1; client <= mostClient; client++ {
		p.apply(by(client, 100-client, put("ax", client, strconv.Itoa(client))))
		p.apply(by(client, 200-client, get("ax", client)))
	}
	p.same("all clients")
	for client := mostClient; client >= 1; client-- {
		want := value(strconv.Itoa(client))
		if r := p.apply(by(client, 200-client, del("ax", 0))); !alike(r, want) {
			t.Errorf("client %d: %s, want %s", client, sayReply(r), sayReply(want))
		}
	}
	p.same("all clients once more")
}

// P16.1: what each kind does

func TestPut(t *testing.T) {
	p := begin(t)
	p.steps([]step{
		{put("ax", 5, "five"), ok()}, {get("ax", 5), value("five")},
		{put("ax", 5, "other"), ok()}, {get("ax", 5), value("other")}, // in its place
		{put("ax", 3, "three"), ok()}, {get("ax", 5), value("other")}, {get("ax", 4), value("three")}, // of an earlier time
		{put("ax", 0, ""), ok()}, {get("ax", 0), value("")}, // an empty value is one
		{put("ax", mostAt, "end"), ok()}, {get("ax", mostAt), value("end")}, {get("ax", mostAt-1), value("other")},
		{put("ay", 5, "y"), ok()}, {put("bx", 5, "b"), ok()}, {get("ax", 5), value("other")}, {get("ay", 5), value("y")}, {get("bx", 9), value("b")},
	})
	if got, want := p.s.Cells(), cells("ax4294967295=end ax5=other ax3=three ax0= ay5=y bx5=b"); !slices.Equal(got, want) {
		t.Error(sayCells(got))
	}
}

func TestDelete(t *testing.T) {
	p := begin(t)
	p.steps([]step{
		{del("ax", 2), ok()}, {get("ax", 2), ok()}, // of what isn't there: a cell that is gone
		{put("ax", 1, "one"), ok()}, {get("ax", 1), value("one")}, {get("ax", 2), ok()}, {get("ax", 3), ok()},
		{put("ax", 4, "four"), ok()}, {get("ax", 3), ok()}, {get("ax", 4), value("four")},
		{del("ax", 4), ok()}, {get("ax", 4), ok()}, {get("ax", 9), ok()}, // in the value's place
		{put("ax", 2, "two"), ok()}, {get("ax", 3), value("two")}, {get("ax", 4), ok()}, // and a value in its place
		{put("ay", 1, "y"), ok()}, {del("ax", mostAt), ok()}, {get("ay", mostAt), value("y")},
		{del("ax", 0), ok()}, {get("ax", 0), ok()}, {get("ax", 1), value("one")},
	})
	if got, want := p.s.Cells(), cells("ax4294967295! ax4! ax2=two ax1=one ax0! ay1=y"); !slices.Equal(got, want) {
		t.Error(sayCells(got))
	}
}

func TestCheck(t *testing.T) {
	p := begin(t)
	p.steps([]step{
		{swap("ax", 5, "", "v"), ok()}, {swap("ax", 5, "old", "v"), ok()}, // none is there
		{first("ax", 5, "five"), did()}, {get("ax", 5), value("five")},
		{first("ax", 5, "v"), ok()}, {first("ax", 9, "v"), ok()}, // one is there
		{swap("ax", 5, "", "v"), ok()}, {swap("ax", 5, "fiv", "v"), ok()}, {swap("ax", 5, "fivee", "v"), ok()}, {swap("ax", 5, "Five", "v"), ok()}, {swap("ax", 5, "five\x00", "v"), ok()},
		{swap("ax", 4, "five", "v"), ok()}, // not yet there
		{get("ax", mostAt), value("five")},
		{swap("ax", 5, "five", "5"), did()}, {get("ax", 5), value("5")}, // in its place
		{swap("ax", 8, "5", "eight"), did()}, {get("ax", 7), value("5")}, {get("ax", 8), value("eight")}, // ahead of it
		{swap("ax", 8, "5", "v"), ok()}, {swap("ax", 7, "5", "seven"), did()}, {get("ax", 8), value("eight")}, {get("ax", 7), value("seven")},
		{first("ax", 4, "four"), did()}, {get("ax", 4), value("four")}, {get("ax", 5), value("5")}, // none at that time
		{del("ax", 6), ok()}, {swap("ax", 6, "5", "v"), ok()}, {swap("ax", 6, "", "v"), ok()}, {first("ax", 6, "six"), did()}, {get("ax", 6), value("six")}, // gone
		{put("ax", 9, ""), ok()}, {first("ax", 9, "v"), ok()}, {swap("ax", 9, "eight", "v"), ok()}, {swap("ax", 9, "", "nine"), did()}, {get("ax", 9), value("nine")}, // empty
		{swap("ax", 10, "nine", ""), did()}, {get("ax", 10), value("")},
		{swap("ax", 10, "", ""), did()},
		{first("ay", 9, "y"), did()}, {first("bx", 9, "b"), did()}, {swap("ay", 9, "nine", "v"), ok()}, {swap("bx", 9, "y", "v"), ok()},
		{first("ax", mostAt, "v"), ok()}, {swap("ax", mostAt, "", "end"), did()}, {first("ax", 0, "nought"), did()},
	})
	if got, want := p.s.Cells(), cells("ax4294967295=end ax10= ax9=nine ax8=eight ax7=seven ax6=six ax5=5 ax4=four ax0=nought ay9=y bx9=b"); !slices.Equal(got, want) {
		t.Error(sayCells(got))
	}
}

func TestGet(t *testing.T) {
	p := begin(t)
	p.steps([]step{
		{get("ax", 0), ok()}, {get("ax", mostAt), ok()},
		{put("ax", 5, "five"), ok()}, {get("ax", 4), ok()}, {get("ax", 5), value("five")}, {get("ax", 6), value("five")},
		{get("ay", 5), ok()}, {get("bx", 5), ok()}, {get("aX", 5), ok()}, {get("axx", 5), ok()},
		{put("ax", 7, "\x00\xff"), ok()}, {get("ax", 6), value("five")}, {get("ax", 7), value("\x00\xff")},
		{put("ax", 8, of(256)), ok()}, {get("ax", 8), value(of(256))}, {del("ax", 8), ok()}, {get("ax", 8), ok()}, {get("ax", 7), value("\x00\xff")},
	})
}

func TestScan(t *testing.T) {
	p := begin(t)
	p.steps([]step{
		{scan("", "", 0), ok()}, {scan("a", "b", mostAt), ok()},
		{put("bx", 5, "b"), ok()}, {put("ay", 3, "ay"), ok()}, {put("ax", 4, "ax"), ok()}, {put("cx", 0, ""), ok()},
		{scan("", "", 5), list("ax4=ax ay3=ay bx5=b cx0=")},
		{scan("", "", 4), list("ax4=ax ay3=ay cx0=")}, {scan("", "", 3), list("ay3=ay cx0=")}, {scan("", "", 0), list("cx0=")}, // what is there by then
		{scan("a", "b", 5), list("ax4=ax ay3=ay")}, {scan("b", "", 5), list("bx5=b cx0=")}, {scan("", "b", 5), list("ax4=ax ay3=ay")}, // rows from, below
		{scan("b", "b", 5), ok()}, {scan("c", "a", 5), ok()}, {scan("d", "", 5), ok()}, {scan("", "a", 5), ok()}, {scan("aa", "bb", 5), list("bx5=b")},
		{del("ay", 4), ok()}, {scan("a", "b", 4), list("ax4=ax")}, {scan("a", "b", 3), list("ay3=ay")}, // gone
		{put("ax", 7, "new"), ok()}, {scan("a", "b", 6), list("ax4=ax")}, {scan("a", "b", 7), list("ax7=new")}, {scan("a", "b", mostAt), list("ax7=new")}, // the newest alone
	})
}

// Of all that a scan finds the first 20 are answered.
func TestScanOfMany(t *testing.T) {
	p := begin(t)
	for i := range 45 {
		for _, x := range []struct {
			from, to string
			want     int
		}{{"", "", min(i, 20)}, {"r05", "", min(max(i-5, 0), 20)}, {"", "r20", min(i, 20)}, {"", "r21", min(i, 20)}, {"r01", "r21", min(max(i-1, 0), 20)}, {"r01", "r22", min(max(i-1, 0), 20)}, {"r30", "", max(i-30, 0)}} {
			r := p.next(1, scan(x.from, x.to, 9))
			if len(r.Cells) != x.want || r.E != api.OK || r.Did || r.Value != "" {
				t.Errorf("%d cells from %q to %q: %s, want %d", i, x.from, x.to, sayReply(r), x.want)
			}
			from, _ := strconv.Atoi(strings.TrimPrefix(x.from, "r"))
			for j, c := range r.Cells {
				if want := fmt.Sprintf("r%02d", from+j); c.Row != want || c.Col != "c" || c.Value != strconv.Itoa(from+j) {
					t.Errorf("%d cells from %q to %q: place %d has %s, want %s", i, x.from, x.to, j, sayCell(c), want)
				}
			}
		}
		p.next(2, api.Cmd{Kind: api.CmdPut, Row: fmt.Sprintf("r%02d", i), Col: "c", At: 5, Value: strconv.Itoa(i)})
	}
	// What isn't visible isn't counted: not what is gone, not what is too late or hidden.
	for i := range 15 {
		row := fmt.Sprintf("r%02d", i)
		p.next(2, api.Cmd{Kind: api.CmdPut, Row: row, Col: "a", At: 10, Value: "late"})
		p.next(2, api.Cmd{Kind: api.CmdDelete, Row: row, Col: "c", At: 6})
		p.next(2, api.Cmd{Kind: api.CmdPut, Row: fmt.Sprintf("r%02d", 15+i), Col: "c", At: 7, Value: "new"})
	}
	r := p.next(1, scan("", "", 9))
	if len(r.Cells) != 20 || r.Cells[0].Row != "r15" || r.Cells[0].Value != "new" || r.Cells[19].Row != "r34" || r.Cells[19].At != 5 {
		t.Error(sayReply(r))
	}
	p.same("behind scans")
}

// The tree has 400 cells at most.
func TestFull(t *testing.T) {
	p := begin(t)
	for i := range 400 {
		c := put("ax", i, "v")
		if i%3 == 0 {
			c = del("ax", i)
		}
		if i%5 == 1 {
			c = api.Cmd{Kind: api.CmdCheck, Row: "b", Col: "x", At: 400 - i, Value: "v"}
		}
		if r := p.next(1, c); r.E != api.OK {
			t.Fatalf("cell %d: %s", i, sayReply(r))
		}
	}
	p.same("full")
	if len(p.s.Cells()) != 400 {
		t.Fatal(len(p.s.Cells()))
	}
	p.steps([]step{
		{put("cx", 1, "v"), failed(api.ErrFull)}, {del("cx", 1), failed(api.ErrFull)}, {put("ax", 1000, "v"), failed(api.ErrFull)}, {del("ax", 1000), failed(api.ErrFull)},
		{first("cx", 1, "v"), failed(api.ErrFull)}, {get("cx", 1), ok()}, {scan("c", "", mostAt), ok()}, // it holds, but isn't put
		{swap("cx", 1, "v", "w"), ok()}, {get("ax", 1000), ok()}, {first("ax", 1000, "v"), failed(api.ErrFull)}, // nor does it if it doesn't hold
		{put("ax", 398, "new"), ok()}, {get("ax", 398), value("new")}, {swap("ax", 398, "new", "newer"), did()}, {swap("ax", 398, "new", "v"), ok()}, // in a place
		{swap("ax", 400, "newer", "v"), ok()}, {get("ax", 400), ok()},
		{del("ax", 398), ok()}, {get("ax", 398), ok()}, {first("ax", 398, "again"), did()}, {get("ax", 398), value("again")}, {first("ax", 398, "v"), ok()},
		{put("cx", 1, "v"), failed(api.ErrFull)},
	})
	// What had no room is answered so again, and is the client's last one.
	full := by(2, 5, first("cx", 9, "v"))
	for range 3 {
		if r := p.apply(full); !alike(r, failed(api.ErrFull)) {
			t.Error(sayReply(r))
		}
	}
	if r := p.apply(by(2, 5, get("ax", 398))); !alike(r, failed(api.ErrFull)) {
		t.Error(sayReply(r))
	}
	if r := p.apply(by(2, 4, get("ax", 398))); !alike(r, failed(api.ErrArg)) {
		t.Error(sayReply(r))
	}
	p.same("asked again")
	if p.s.Last(2) != 5 {
		t.Error(p.s.Last(2))
	}
}

// The longest names and values, as many as there is room for.
func TestFullOfLongOnes(t *testing.T) {
	p := begin(t)
	for i := range 405 {
		row := strconv.Itoa(i*7919%1000) + of(64)
		c := api.Cmd{Kind: api.CmdPut, Row: row[:64], Col: of(64), At: mostAt - i%2, Value: strings.Repeat("v", 256-i%3)}
		if r := p.next(1+i%16, c); (r.E == api.ErrFull) != (i >= 400) {
			t.Errorf("cell %d: %s", i, sayReply(r))
		}
	}
	p.same("full of long ones")
	r := p.next(1, scan("", "", mostAt))
	if len(r.Cells) != 20 {
		t.Error(sayReply(r))
	}
	for _, c := range r.Cells {
		p.next(3, api.Cmd{Kind: api.CmdGet, Row: c.Row, Col: c.Col, At: mostAt})
		p.next(3, api.Cmd{Kind: api.CmdCheck, Row: c.Row, Col: c.Col, At: c.At, Value: "v", Expect: c.Value[:88], Has: true})
		p.next(3, api.Cmd{Kind: api.CmdCheck, Row: c.Row, Col: c.Col, At: c.At})
	}
	p.same("asked")
}

// What stands at the edges of texts.
func TestTexts(t *testing.T) {
	names := []string{"a", "\x00", "\xff", "a\x00", "ab", "gr\u00fc\u00df", of(63), of(64), strings.Repeat("\xff", 64)}
	values := []string{"", "v", "\x00", "\xff\xfe", of(255), of(256)}
	p := begin(t)
	for i, row := range names {
		for j, col := range names {
			v := values[(i+j)%len(values)]
			p.next(1, api.Cmd{Kind: api.CmdPut, Row: row, Col: col, At: 4, Value: v})
			p.next(1, api.Cmd{Kind: api.CmdGet, Row: row, Col: col, At: 4})
			p.next(1, api.Cmd{Kind: api.CmdCheck, Row: row, Col: col, At: 5, Value: "checked", Expect: v, Has: true})
			p.next(1, api.Cmd{Kind: api.CmdCheck, Row: col, Col: row, At: 4})
			p.next(1, api.Cmd{Kind: api.CmdDelete, Row: row, Col: col, At: 6 + i%2})
			p.next(1, api.Cmd{Kind: api.CmdScan, Row: row, To: col, At: 6})
			p.next(1, api.Cmd{Kind: api.CmdScan, To: row, At: 5})
		}
		p.same(fmt.Sprintf("row %.10q", row))
	}
}

// P16.1: what isn't right is answered ErrArg alone, and changes nothing.

func TestWrong(t *testing.T) {
	p := begin(t)
	check := func(what string, seq int) {
		for _, c := range wrong(1, seq) {
			if r := p.apply(c); !alike(r, failed(api.ErrArg)) {
				t.Errorf("%s: Apply%s = %s", what, say(c), sayReply(r))
			}
		}
		p.same(what)
	}
	check("empty", 1)
	for client := 1; client <= mostClient; client++ {
		p.apply(by(client, 5, put("ax", client, "v")))
	}
	p.apply(by(1, 6, get("ax", 1)))
	for _, seq := range []int{5, 6, 7, mostSeq} {
		check(fmt.Sprint("number ", seq), seq)
		// The reply of the last one isn't lost by it.
		if r := p.apply(by(1, 6, get("ax", 1))); !alike(r, value("v")) {
			t.Error(sayReply(r))
		}
	}
	if r := p.apply(by(1, 7, get("ax", 16))); !alike(r, value("v")) {
		t.Error(sayReply(r))
	}
}

// P16.1: Same

// replies are all unlike each other.
func replies() []api.Reply {
	l := []api.Reply{
		{}, {E: api.ErrArg}, {E: api.ErrFull}, {E: -1}, {Did: true}, {E: api.ErrFull, Did: true}, {Value: "v"}, {Did: true, Value: "v"}, {Did: true, Value: "V"},
		{Did: true, Value: "v\x00"}, {E: api.ErrArg, Did: true, Value: "v"}, {Did: true, Value: of(256)}, {Did: true, Value: of(255)},
	}
	for _, s := range []string{"ax1=v", "bx1=v", "ay1=v", "ax2=v", "ax1=w", "ax1=", "ax1!", "ax1=v ay1=v", "ay1=v ax1=v", "ax1=v ax1=v", "ax1=v ay1=v ax1=v"} {
		l = append(l, list(s))
	}
	return append(l, api.Reply{Cells: []api.Cell{{}}}, api.Reply{E: api.ErrArg, Cells: cells("ax1=v")}, api.Reply{Did: true, Cells: cells("ax1=v")}, api.Reply{Value: "v", Cells: cells("ax1=v")})
}

func TestSame(t *testing.T) {
	for i, a := range replies() {
		for j, b := range replies() {
			if got := state.Same(a, b); got != (i == j) {
				t.Errorf("Same(%s, %s) = %v", sayReply(a), sayReply(b), got)
			}
		}
	}
	// No cells are no cells, whether they are nil or empty.
	for _, r := range replies() {
		if len(r.Cells) > 0 {
			continue
		}
		for _, l := range [][]api.Cell{nil, {}, make([]api.Cell, 0, 7), cells("ax1=v")[:0]} {
			o := r
			o.Cells = l
			if !state.Same(r, o) || !state.Same(o, r) || !state.Same(o, o) {
				t.Errorf("no cells, and none: %s", sayReply(r))
			}
			o.Did = !o.Did
			if state.Same(r, o) || state.Same(o, r) {
				t.Errorf("no cells, and another Did: %s", sayReply(r))
			}
		}
	}
}

// P16.1 and P16.2: all short lists of commands

// All that may be done at one place, at times below, at and above each other.
func TestAllShortLists(t *testing.T) {
	kinds := []api.Cmd{
		put("ax", 1, "v"), put("ax", 2, ""), put("ay", 2, "w"), del("ax", 1), del("ax", 2), first("ax", 1, "w"), first("ax", 2, ""),
		swap("ax", 1, "v", "w"), swap("ax", 2, "v", "v"), swap("ax", 3, "", "v"), swap("ax", 2, "w", ""),
	}
	looks := []api.Cmd{get("ax", 0), get("ax", 1), get("ax", 2), get("ax", 3), get("ay", 2), scan("", "", 1), scan("", "", 2), scan("a", "b", 3)}
	var lists func(l []api.Cmd)
	lists = func(l []api.Cmd) {
		p := begin(t)
		for _, c := range l {
			p.next(1, c)
		}
		p.same("all")
		for _, c := range looks {
			p.next(2, c)
		}
		if p.Failed() {
			t.Fatal(l)
		}
		if len(l) == 4 {
			return
		}
		for _, c := range kinds {
			lists(append(slices.Clone(l), c))
		}
	}
	lists(nil)
}

// Numbers of two clients in all orders.
func TestAllShortListsOfNumbers(t *testing.T) {
	var lists func(l []api.Cmd)
	lists = func(l []api.Cmd) {
		p := begin(t)
		for _, c := range l {
			p.apply(c)
		}
		p.same("all")
		if p.Failed() {
			t.Fatal(l)
		}
		if len(l) == 4 {
			return
		}
		for client := 1; client <= 2; client++ {
			for seq := range 4 {
				lists(append(slices.Clone(l), by(client, seq, put("ax", len(l), strconv.Itoa(len(l))))))
				lists(append(slices.Clone(l), by(client, seq, scan("", "", 9))))
			}
		}
	}
	lists(nil)
}

// P16.2: what comes again is answered as it was, and changes nothing.

func TestAgain(t *testing.T) {
	p := begin(t)
	p.steps([]step{{put("ax", 1, "one"), ok()}, {put("bx", 1, "b"), ok()}})
	for i, c := range []api.Cmd{put("ax", 2, "two"), del("ax", 3), first("ay", 1, "y"), swap("ax", 2, "two", "2"), swap("ax", 2, "two", "3"), get("ax", 2), get("ax", 9), scan("", "", 2)} {
		was := p.next(2, c)
		seq := p.s.Last(2)
		cells := p.s.Cells()
		for _, again := range []api.Cmd{c, c, put("ax", 2, "other"), del("bx", 1), first("cx", 1, "c"), swap("bx", 1, "b", "other"), get("bx", 1), scan("b", "c", 1)} {
			if r := p.apply(by(2, seq, again)); !alike(r, was) {
				t.Errorf("%d: %s came again as %s: %s, want %s", i, say(c), say(again), sayReply(r), sayReply(was))
			}
		}
		if got := p.s.Cells(); !slices.Equal(got, cells) || p.s.Last(2) != seq {
			t.Errorf("%d: %s came again, and changed something: %s", i, say(c), sayCells(got))
		}
		p.same(fmt.Sprint("again, ", i))
	}
	// It is answered as it was, though it would be answered otherwise now.
	for _, c := range []api.Cmd{get("ax", 2), scan("", "", 9), swap("ax", 2, "2", "x"), first("ax", 2, "x")} {
		was := p.next(3, c)
		seq := p.s.Last(3)
		for _, o := range []api.Cmd{put("ax", 2, "changed"), put("az", 2, "more"), del("bx", 5), del("ax", 2), put("ax", 2, "2")} {
			p.next(4, o)
			if r := p.apply(by(3, seq, c)); !alike(r, was) {
				t.Errorf("%s behind %s: %s, want %s", say(c), say(o), sayReply(r), sayReply(was))
			}
		}
		p.same("behind others")
	}
}

// What is below the last one is answered ErrArg alone, and changes nothing, so that the
// last one's reply is still there.
func TestOld(t *testing.T) {
	p := begin(t)
	p.apply(by(1, 3, put("ax", 1, "one")))
	p.apply(by(1, 9, get("ax", 1)))
	for _, seq := range []int{1, 2, 3, 4, 7, 8} {
		for _, c := range []api.Cmd{put("ax", 1, "other"), del("ax", 1), first("ay", 1, "y"), swap("ax", 1, "one", "other"), get("ax", 1), scan("", "", 9)} {
			if r := p.apply(by(1, seq, c)); !alike(r, failed(api.ErrArg)) {
				t.Errorf("Apply%s = %s", say(by(1, seq, c)), sayReply(r))
			}
			p.same("an old one")
		}
		if r := p.apply(by(1, 9, get("ay", 1))); !alike(r, value("one")) {
			t.Errorf("the last one: %s", sayReply(r))
		}
	}
	if r := p.apply(by(2, 1, get("ax", 1))); !alike(r, value("one")) {
		t.Errorf("another client: %s", sayReply(r))
	}
}

// madeUp are commands of a few keys and clients; some are wrong, or of old numbers, or
// come again.
func madeUp(r *rand.Rand, n int) []api.Cmd {
	var l []api.Cmd
	seqs := map[int]int{}
	for i := range n {
		client := 1 + r.Intn(r.Intn(mostClient)+1)
		key, at := string(rune('a'+r.Intn(5)))+string(rune('x'+r.Intn(2))), r.Intn(9)
		v, old := strconv.Itoa(i%7), strconv.Itoa(r.Intn(7))
		c := []api.Cmd{put(key, at, v), del(key, at), first(key, at, v), swap(key, at, old, v), get(key, at), scan(key[:1], "", at), scan("", key[:1], at)}[r.Intn(7)]
		switch r.Intn(9) {
		case 0:
			c = by(client, seqs[client], c)
		case 1:
			c = by(client, seqs[client]-1, c)
		case 2:
			bad := wrong(client, seqs[client]+1)
			c = bad[r.Intn(len(bad))]
		default:
			seqs[client] += 1 + r.Intn(3)
			c = by(client, seqs[client], c)
		}
		l = append(l, c)
		if len(l) > 3 && r.Intn(6) == 0 {
			l = append(l, l[len(l)-1-r.Intn(3)])
		}
	}
	return l
}

func TestMadeUp(t *testing.T) {
	for seed := range 40 {
		p := begin(t)
		for i, c := range madeUp(rand.New(rand.NewSource(int64(seed))), 400) {
			p.apply(c)
			if i%10 == 0 {
				p.same(fmt.Sprint(seed, i))
			}
		}
		p.same(fmt.Sprint(seed))
	}
}

// Many keys, till the tree is full, and on.
func TestMadeUpTillFull(t *testing.T) {
	for seed := range 4 {
		r := rand.New(rand.NewSource(int64(seed)))
		p := begin(t)
		full := 0
		for i := range 1500 {
			key, at := string(rune('a'+r.Intn(26)))+string(rune('a'+r.Intn(5))), r.Intn(5)
			c := []api.Cmd{put(key, at, strconv.Itoa(i)), put(key, at, ""), del(key, at), first(key, at, strconv.Itoa(i)), swap(key, at, "", of(r.Intn(99))), get(key, at), scan(key[:1], "", at)}[r.Intn(7)]
			if p.next(1+r.Intn(mostClient), c).E == api.ErrFull {
				full++
			}
		}
		p.same(fmt.Sprint(seed))
		if full == 0 || len(p.d.cells) != 400 {
			t.Errorf("seed %d: %d had no room, %d cells", seed, full, len(p.d.cells))
		}
	}
}

// What takes no effect may be left out, or come more often: the state is the same.
func TestWhatTakesNoEffectMayBeLeftOut(t *testing.T) {
	for seed := range 20 {
		r := rand.New(rand.NewSource(int64(seed)))
		once, often := state.New(), state.New()
		last := map[int]api.Cmd{}
		for _, c := range madeUp(r, 200) {
			if isRight(c) && c.Seq > last[c.Client].Seq {
				a, b := once.Apply(c), often.Apply(c)
				if !state.Same(a, b) || !alike(a, b) {
					t.Errorf("%s: %s and %s", say(c), sayReply(a), sayReply(b))
				}
				last[c.Client] = c
			}
			for client := 1; client <= mostClient; client++ {
				if l, ok := last[client]; ok && r.Intn(4) == 0 {
					often.Apply(l)
					l.Seq--
					often.Apply(l)
					l.Kind = 9
					often.Apply(l)
				}
			}
		}
		areAlike(t, once, often)
	}
}

// areAlike asks two states all that may be asked of them: what they tell, what comes
// again, and what comes next.
func areAlike(t *testing.T, a, b *state.State) {
	t.Helper()
	if x, y := a.Cells(), b.Cells(); !slices.Equal(x, y) {
		t.Errorf("%s\n\tand %s", sayCells(x), sayCells(y))
	}
	for client := 1; client <= mostClient; client++ {
		seq := a.Last(client)
		if n := b.Last(client); n != seq {
			t.Errorf("Last(%d): %d and %d", client, seq, n)
		}
		for _, c := range []api.Cmd{by(client, seq, get("ax", 9)), by(client, seq-1, get("ax", 9)), by(client, seq+1, scan("", "", client)), by(client, seq+2, put("ax", client, "v")), by(client, seq+3, scan("", "", 9))} {
			if x, y := a.Apply(c), b.Apply(c); !state.Same(x, y) || !alike(x, y) {
				t.Errorf("%s: %s and %s", say(c), sayReply(x), sayReply(y))
			}
		}
	}
}

// States that were told the same are alike, whatever else they were asked meanwhile, and
// whatever other states are told at the same time.
func TestStatesThatWereToldTheSameAreAlike(t *testing.T) {
	for seed := range 10 {
		l := madeUp(rand.New(rand.NewSource(int64(seed))), 300)
		var states [6]*state.State
		var told [6][]api.Reply
		var wait sync.WaitGroup
		for i := range states {
			wait.Go(func() {
				s := state.New()
				for j, c := range l {
					told[i] = append(told[i], s.Apply(c))
					if i > 0 && j%i == 0 {
						s.Cells()
						s.Last(c.Client)
					}
				}
				states[i] = s
			})
		}
		wait.Wait()
		for i := range states[1:] {
			for j := range l {
				if !state.Same(told[0][j], told[i+1][j]) {
					t.Errorf("seed %d: %s: %s and %s", seed, say(l[j]), sayReply(told[0][j]), sayReply(told[i+1][j]))
				}
			}
		}
		for i := 0; i < len(states); i += 2 {
			areAlike(t, states[i], states[i+1])
		}
	}
}

// Two states have nothing of each other.
func TestStatesAreApart(t *testing.T) {
	p, q := begin(t), begin(t)
	for i := range 100 {
		p.next(1, put("ax", i, "p"))
		p.next(1, scan("", "", mostAt))
		if i%3 == 0 {
			q.next(1, put("ax", i, "q"))
			q.next(2, del("by", i))
		}
		p.same("p")
		q.same("q")
	}
}

// checkSteps takes commands of the bytes, five for each.
func checkSteps(t *testing.T, b []byte) {
	p := begin(t)
	for i := 0; i+5 <= min(len(b), 1500); i += 5 {
		x := b[i : i+5]
		c := api.Cmd{Client: int(x[0] % 18), Seq: int(x[1] % 16), Kind: int(x[2] % 8), At: int(x[3]%9) - 1, Has: x[2] >= 128}
		c.Row, c.Value, c.Expect = of(int(x[4]%4)), of(int(x[3]/16)), of(int(x[3]/64))
		if c.Kind == api.CmdScan {
			c.To = of(int(x[4] / 32))
		} else {
			c.Col = of(1 + int(x[4]>>3%2))
		}
		if x[1] >= 32 {
			c.Seq = p.d.seqs[c.Client] + int(x[1]%2)
		}
		if x[4] < 240 { // mostly nothing that the kind doesn't have
			c.Has = c.Has && c.Kind == api.CmdCheck
			if !c.Has {
				c.Expect = ""
			}
			if c.Kind != api.CmdPut && c.Kind != api.CmdCheck {
				c.Value = ""
			}
		}
		p.apply(c)
		p.same(fmt.Sprintf("%x", b[:i+5]))
		if p.Failed() {
			return
		}
	}
}

func TestStepsOfBytes(t *testing.T) {
	r := rand.New(rand.NewSource(16))
	for range 200 {
		b := make([]byte, r.Intn(1000))
		r.Read(b)
		checkSteps(t, b)
	}
}

func FuzzSteps(f *testing.F) {
	f.Add([]byte("\x01\x01\x01\x25\x09\x01\x02\x04\x26\x09\x01\x02\x04\x26\x09\x02\x01\x83\x67\x09\x03\x01\x05\x09\x00"))
	f.Add([]byte(strings.Repeat("abcdefg", 30)))
	f.Fuzz(checkSteps)
}

// P16.3

// spoil writes over all that the list has, and over the memory behind it.
func spoil(l []api.Cell) {
	l = l[:cap(l)]
	for i := range l {
		l[i] = api.Cell{Row: "other", Col: "other", At: 99, Value: "other"}
	}
}

func TestWhatIsAnsweredIsNewMemory(t *testing.T) {
	p := begin(t)
	for i := range 60 {
		p.next(1, put(string(rune('a'+i%26))+"x", i, strconv.Itoa(i)))
		for _, c := range []api.Cmd{scan("", "", mostAt), scan("b", "d", mostAt), scan("z", "", mostAt), scan("", "", 0), get("ax", mostAt)} {
			r := p.next(2, c)
			spoil(r.Cells)
			_ = append(r.Cells, api.Cell{Row: "more"})
			again := p.apply(by(2, p.s.Last(2), c))
			spoil(again.Cells)
			p.apply(by(2, p.s.Last(2), c))
		}
		l := p.s.Cells()
		spoil(l)
		_ = append(l, api.Cell{Row: "more"})
		p.same("behind a change of an answer")
	}
}

// Two answers share nothing either, and what was told stays, whatever is done then.
func TestAnswersStay(t *testing.T) {
	p := begin(t)
	var told, copies [][]api.Cell
	keep := func(l []api.Cell) {
		told = append(told, l)
		copies = append(copies, slices.Clone(l))
	}
	for i := range 50 {
		p.next(1, put(string(rune('a'+i%26))+"x", i/26, strconv.Itoa(i)))
		c := scan(string(rune('a'+i%7)), "", i%3)
		keep(p.next(2, c).Cells)
		again := by(2, p.s.Last(2), c)
		keep(p.s.Apply(again).Cells)
		spoil(p.s.Apply(again).Cells)
		keep(p.s.Apply(again).Cells)
		keep(p.s.Cells())
		spoil(p.s.Cells())
	}
	for i := range 26 {
		p.next(3, put(string(rune('a'+i))+"x", 0, "changed"))
		p.next(3, del(string(rune('a'+i))+"x", 1))
		p.next(2, scan("", "", mostAt))
	}
	for i, l := range told {
		if !slices.Equal(l, copies[i]) {
			t.Errorf("answer %d has changed: %s\n\twas %s", i, sayCells(l), sayCells(copies[i]))
		}
	}
	p.same("behind many changes")
}

// Same changes nothing of what it is given.
func TestSameLeavesWhatIsHandedIn(t *testing.T) {
	for i, a := range replies() {
		for j, b := range replies() {
			state.Same(a, b)
			if !alike(a, replies()[i]) || !alike(b, replies()[j]) {
				t.Errorf("Same changed %s or %s", sayReply(a), sayReply(b))
			}
		}
	}
}

// P1: every call ends, whatever it is given, and of a state that New didn't make, too.
func TestNoCallPanics(t *testing.T) {
	var zero state.State
	full := begin(t)
	for i := range 405 {
		full.next(1, put("ax", i, of(i%256)))
	}
	numbers := []int{math.MinInt, -1 << 32, -1, 0, 1, 2, 16, 17, 1 << 31, 1 << 32, math.MaxInt}
	for _, s := range []*state.State{&zero, state.New(), full.s} {
		for _, client := range numbers {
			s.Last(client)
			for _, seq := range numbers {
				for _, kind := range append(numbers, 3, 4, 5, 6) {
					for _, at := range numbers {
						s.Apply(api.Cmd{Client: client, Seq: seq, Kind: kind, Row: "r", Col: "c", At: at})
						s.Apply(api.Cmd{Client: client, Seq: seq, Kind: kind, At: at, Has: true})
					}
				}
			}
		}
		for _, c := range append(wrong(1, 1), wrong(16, mostSeq)...) {
			s.Apply(c)
		}
		s.Cells()
	}
}
