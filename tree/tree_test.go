package tree_test

import (
	"fmt"
	"math"
	"math/rand"
	"slices"
	"sort"
	"strconv"
	"strings"
	"testing"

	"shardlog/api"
	"shardlog/tree"
)

const mostAt = 1<<32 - 1

// The words of the chapter once more: a list of all that was put, looked through from
// one end to the other, and beside it how many tables each level has.

type model struct {
	shelf  api.Shelf
	puts   []api.Cell // of each key what was put last, but what a cleaning took
	memory []api.Cell // of each key what was put last since the last flush
	levels []int
}

func isRight(c api.Cell) bool {
	for _, s := range []string{c.Row, c.Col} {
		if len(s) < 1 || len(s) > 64 {
			return false
		}
	}
	return c.At >= 0 && c.At <= mostAt && len(c.Value) <= 256 && (!c.Gone || c.Value == "")
}

func together(a, b api.Cell) bool { return a.Row == b.Row && a.Col == b.Col }

func sameKey(a, b api.Cell) bool { return together(a, b) && a.At == b.At }

func ahead(a, b api.Cell) bool {
	if a.Row != b.Row {
		return a.Row < b.Row
	}
	if a.Col != b.Col {
		return a.Col < b.Col
	}
	return a.At > b.At
}

func hasKey(l []api.Cell, c api.Cell) bool {
	return slices.ContainsFunc(l, func(d api.Cell) bool { return sameKey(c, d) })
}

// sum counts the bytes: three lengths, a number and a byte beside the texts.
func sum(l []api.Cell) int {
	n := 0
	for _, c := range l {
		n += 17 + len(c.Row) + len(c.Col) + len(c.Value)
	}
	return n
}

// replaced is the list with the cell behind it, in the place of one with its key.
func replaced(l []api.Cell, c api.Cell) []api.Cell {
	l = slices.DeleteFunc(l, func(d api.Cell) bool { return sameKey(c, d) })
	return append(l, c)
}

// cells are all of them, in order.
func (d *model) cells() []api.Cell {
	l := slices.Clone(d.puts)
	sort.Slice(l, func(i, j int) bool { return ahead(l[i], l[j]) })
	return l
}

func (d *model) put(c api.Cell) api.Errno {
	if !isRight(c) {
		return api.ErrArg
	}
	if !hasKey(d.puts, c) && len(d.puts) == 400 {
		return api.ErrFull
	}
	d.puts = replaced(d.puts, c)
	d.memory = replaced(d.memory, c)
	if sum(d.memory) >= d.shelf.Mem {
		d.flush()
	}
	return api.OK
}

// flush counts tables. Only level 0 gets more than one, so that no other level ever has
// more than the shelf says.
func (d *model) flush() {
	if len(d.memory) == 0 {
		return
	}
	d.memory = nil
	if len(d.levels) == 0 {
		d.levels = []int{0}
	}
	d.levels[0]++
	if d.levels[0] > d.shelf.Fan {
		d.levels = []int{0, 1}
	}
}

func (d *model) clean(upto int) {
	d.puts = cleaned(d.cells(), upto)
	d.memory = nil
	d.levels = make([]int, max(len(d.levels), 1))
	if len(d.puts) > 0 {
		d.levels[len(d.levels)-1] = 1
	}
}

// isNewest tells whether no later cell of its row and column is of a time up to at.
func isNewest(l []api.Cell, c api.Cell, at int) bool {
	return c.At <= at && !slices.ContainsFunc(l, func(d api.Cell) bool { return together(c, d) && d.At <= at && d.At > c.At })
}

func cleaned(l []api.Cell, upto int) []api.Cell {
	var some []api.Cell
	for _, c := range l {
		if c.At > upto || isNewest(l, c, upto) && !c.Gone {
			some = append(some, c)
		}
	}
	return some
}

// get is the latest one that isn't too late.
func get(l []api.Cell, row, col string, at int) (string, bool) {
	best := api.Cell{Gone: true}
	for _, c := range l {
		if c.Row == row && c.Col == col && c.At <= at && (best.Row == "" || c.At > best.At) {
			best = c
		}
	}
	return best.Value, !best.Gone
}

func scan(l []api.Cell, from, to string, at int) []api.Cell {
	var some []api.Cell
	for _, c := range l {
		if c.Row >= from && (to == "" || c.Row < to) && isNewest(l, c, at) && !c.Gone {
			some = append(some, c)
		}
	}
	return some
}

// Messages.

func say(c api.Cell) string {
	mark := "="
	if c.Gone {
		mark = "!"
	}
	return fmt.Sprintf("%.70q %.70q %d%s%.20q", c.Row, c.Col, c.At, mark, c.Value)
}

// sayAll is some of them: all would fill the screen.
func sayAll(l []api.Cell) string {
	var b strings.Builder
	fmt.Fprintf(&b, "%d cells", len(l))
	for _, c := range l[:min(len(l), 12)] {
		b.WriteString(" (" + say(c) + ")")
	}
	return b.String()
}

// What is handed in.

func of(n int) string { return strings.Repeat("n", n) }

// one is a cell spelt as "ax9=v" (row a, column x, at 9, value v) or, of one that is
// gone, "ax9!".
func one(w string) api.Cell {
	end := strings.IndexAny(w, "=!")
	at, e := strconv.Atoi(w[2:end])
	if e != nil {
		panic(w)
	}
	return api.Cell{Row: w[:1], Col: w[1:2], At: at, Value: w[end+1:], Gone: w[end] == '!'}
}

func written(s string) []api.Cell {
	var l []api.Cell
	for _, w := range strings.Fields(s) {
		l = append(l, one(w))
	}
	return l
}

// wrong are cells that aren't right, each by one thing.
func wrong() []api.Cell {
	return []api.Cell{
		{}, {Row: "a"}, {Col: "x"}, {Row: "a", At: 1, Value: "v"}, {Row: of(65), Col: "x"}, {Row: "a", Col: of(65)}, {Row: "a", Col: "x", At: -1},
		{Row: "a", Col: "x", At: mostAt + 1}, {Row: "a", Col: "x", At: math.MinInt}, {Row: "a", Col: "x", At: math.MaxInt},
		{Row: "a", Col: "x", Value: of(257)}, {Row: "a", Col: "x", Value: "v", Gone: true}, {Row: "a", Col: "x", Value: of(1 << 16)},
	}
}

func rowNames() []string {
	return []string{
		"a", "aa", "ab", "b", "B", "a\x00", "a\x00a", "a\xff", "\x00", "\x00\x00", "\x7f", "\x80", "\xff",
		"gr\u00fc\u00df", "\uffff", "\U00010000", of(63), of(64), strings.Repeat("\x00", 64), strings.Repeat("\xff", 64),
	}
}

// bounds are rows, places ahead of, between and behind them, and what no row is.
func bounds() []string {
	return append(rowNames(), "", "A", "a\x00\x00", "a\xfe", "az", "c", of(65), strings.Repeat("\xff", 65))
}

func times() []int {
	return []int{math.MinInt, -1, 0, 1, 2, 3, 6, 7, 8, 1 << 31, mostAt - 1, mostAt, mostAt + 1, math.MaxInt}
}

// many are right cells of all kinds, in order, fewer than a tree may have.
func many() []api.Cell {
	var l []api.Cell
	for i, row := range rowNames() {
		for j, col := range []string{"\x00", "a", "ab", "b", "\xff", of(64)}[i%3:] {
			for k, at := range []int{mostAt, 7, 0} {
				c := api.Cell{Row: row, Col: col, At: at}
				if (i+j+k)%3 == 0 {
					c.Gone = true
				} else {
					c.Value = strings.Repeat("v", (i*j*k*37)%257)
				}
				l = append(l, c)
			}
		}
	}
	sort.Slice(l, func(i, j int) bool { return ahead(l[i], l[j]) })
	return l
}

func shuffled(l []api.Cell, seed int) []api.Cell {
	l = slices.Clone(l)
	rand.New(rand.NewSource(int64(seed))).Shuffle(len(l), func(i, j int) { l[i], l[j] = l[j], l[i] })
	return l
}

// shelves have cells stand in memory alone, in tables alone, and in all ways between.
func shelves() []api.Shelf {
	return []api.Shelf{
		{Mem: 4096, Block: 4096, Fan: 8}, {Mem: 1, Block: 1, Fan: 1}, {Mem: 1, Block: 4096, Fan: 8}, {Mem: 30, Block: 1, Fan: 2},
		{Mem: 60, Block: 30, Fan: 2}, {Mem: 200, Block: 100, Fan: 3}, {Mem: 700, Block: 50, Fan: 1}, {Mem: 4096, Block: 1, Fan: 1}, {Mem: 25, Block: 2, Fan: 5},
	}
}

// pair is a tree, and what the words say of it.
type pair struct {
	*testing.T
	x *tree.Tree
	d *model
}

func begin(t *testing.T, s api.Shelf) *pair {
	t.Helper()
	x, e := tree.New(s)
	if e != api.OK || x == nil {
		t.Fatalf("New(%v): %d", s, e)
	}
	return &pair{t, x, &model{shelf: s}}
}

func made(t *testing.T, s api.Shelf, l []api.Cell) *pair {
	t.Helper()
	p := begin(t, s)
	for _, c := range l {
		p.put(c)
	}
	return p
}

func (p *pair) put(c api.Cell) {
	p.Helper()
	if got, want := p.x.Put(c), p.d.put(c); got != want {
		p.Errorf("shelf %v: Put(%s) = %d, want %d", p.d.shelf, say(c), got, want)
	}
}

func (p *pair) flush() {
	p.x.Flush()
	p.d.flush()
}

func (p *pair) clean(upto int) {
	p.x.Clean(upto)
	p.d.clean(upto)
}

// do takes the steps one by one: puts, "flush", and "clean5".
func (p *pair) do(steps string) {
	p.Helper()
	for _, w := range strings.Fields(steps) {
		upto, isClean := strings.CutPrefix(w, "clean")
		switch {
		case w == "flush":
			p.flush()
		case isClean:
			at, e := strconv.Atoi(upto)
			if e != nil {
				panic(w)
			}
			p.clean(at)
		default:
			p.put(one(w))
		}
	}
}

// same holds what is told of the whole tree against the words.
func (p *pair) same(what string) {
	p.Helper()
	if got, want := p.x.Cells(), p.d.cells(); !slices.Equal(got, want) {
		p.Errorf("shelf %v, %s: %s\n\twant %s", p.d.shelf, what, sayAll(got), sayAll(want))
	}
	if got := p.x.Levels(); !slices.Equal(got, p.d.levels) {
		p.Errorf("shelf %v, %s: levels %v, want %v", p.d.shelf, what, got, p.d.levels)
	}
}

func (p *pair) get(what, row, col string, at int) {
	p.Helper()
	got, ok := p.x.Get(row, col, at)
	want, is := get(p.d.puts, row, col, at)
	if got != want || ok != is {
		p.Errorf("shelf %v, %s: Get(%.70q, %.70q, %d) = %.20q, %v, want %.20q, %v", p.d.shelf, what, row, col, at, got, ok, want, is)
	}
}

func (p *pair) scan(what, from, to string, at int) {
	p.Helper()
	if got, want := p.x.Scan(from, to, at), scan(p.d.cells(), from, to, at); !slices.Equal(got, want) {
		p.Errorf("shelf %v, %s: Scan(%.70q, %.70q, %d) = %s\n\twant %s", p.d.shelf, what, from, to, at, sayAll(got), sayAll(want))
	}
}

// looks holds Get of each cell's place, and Scan of its row, at times around it.
func (p *pair) looks(what string) {
	p.Helper()
	p.same(what)
	l := p.d.cells()
	for _, c := range l {
		for _, at := range []int{c.At - 1, c.At, c.At + 1, mostAt} {
			p.get(what, c.Row, c.Col, at)
		}
	}
	for i := 0; i < len(l); i += 1 + len(l)/7 {
		p.scan(what, l[i].Row, "", l[i].At)
		p.scan(what, "", l[i].Row, l[i].At)
	}
	p.scan(what, "", "", mostAt)
}

// P14.1: New

func TestNew(t *testing.T) {
	edges := func(most int) []int {
		return []int{math.MinInt, -4096, -1, 0, 1, 2, most - 1, most, most + 1, 2 * most, 1 << 32, 1<<32 + 1, math.MaxInt}
	}
	is := func(n, most int) bool { return n >= 1 && n <= most }
	for _, m := range edges(4096) {
		for _, b := range edges(4096) {
			for _, f := range edges(8) {
				s := api.Shelf{Mem: m, Block: b, Fan: f}
				if !is(m, 4096) || !is(b, 4096) || !is(f, 8) {
					if x, e := tree.New(s); x != nil || e != api.ErrArg {
						t.Errorf("New(%v) = %v, %d, want nil, ErrArg", s, x, e)
					}
					continue
				}
				begin(t, s).looks("new")
			}
		}
	}
	for f := range 12 {
		if x, e := tree.New(api.Shelf{Mem: 1, Block: 1, Fan: f}); (x != nil) != is(f, 8) || (e == api.OK) != is(f, 8) {
			t.Errorf("Fan %d: %d", f, e)
		}
	}
}

// An empty tree has nothing, and stays so.
func TestEmpty(t *testing.T) {
	for _, s := range shelves() {
		p := begin(t, s)
		for range 2 {
			for _, row := range bounds() {
				p.get("empty", row, "a", 7)
				p.scan("empty", row, "b", 7)
				p.scan("empty", "b", row, 7)
			}
			p.flush()
			p.same("empty, flushed")
		}
		if l := p.x.Levels(); len(l) != 0 {
			t.Errorf("shelf %v: levels %v", s, l)
		}
	}
}

// P14.1: Put, Cells and Levels

func TestByTheLetter(t *testing.T) {
	for _, c := range []struct {
		shelf  api.Shelf
		steps  string
		cells  string
		levels []int
	}{
		// With Mem 1 each Put is flushed.
		{api.Shelf{Mem: 1, Block: 9, Fan: 2}, "ax9=1", "ax9=1", []int{1}},
		{api.Shelf{Mem: 1, Block: 9, Fan: 2}, "ax9=1 ax9=2", "ax9=2", []int{2}},
		{api.Shelf{Mem: 1, Block: 9, Fan: 2}, "ax9=1 ax9=2 ax9=3", "ax9=3", []int{0, 1}},
		{api.Shelf{Mem: 1, Block: 9, Fan: 2}, "ax9=1 bx9=2 ax9=3 cx9=4", "ax9=3 bx9=2 cx9=4", []int{1, 1}},
		{api.Shelf{Mem: 1, Block: 9, Fan: 2}, "ax9=1 bx9=2 ax9=3 cx9=4 ax9!", "ax9! bx9=2 cx9=4", []int{2, 1}},
		{api.Shelf{Mem: 1, Block: 9, Fan: 2}, "ax9=1 bx9=2 ax9=3 cx9=4 ax9! bx9!", "ax9! bx9! cx9=4", []int{0, 1}},
		{api.Shelf{Mem: 1, Block: 9, Fan: 1}, "ax9=1 ax8=2", "ax9=1 ax8=2", []int{0, 1}},
		{api.Shelf{Mem: 1, Block: 9, Fan: 1}, "ax9=1 ax8=2 ax8=3", "ax9=1 ax8=3", []int{1, 1}},
		// A cell of 20 bytes: with Mem 20 it is flushed, with Mem 21 the second one is.
		{api.Shelf{Mem: 20, Block: 9, Fan: 2}, "ax9=1", "ax9=1", []int{1}},
		{api.Shelf{Mem: 21, Block: 9, Fan: 2}, "ax9=1", "ax9=1", nil},
		{api.Shelf{Mem: 21, Block: 9, Fan: 2}, "ax9=12", "ax9=12", []int{1}},
		{api.Shelf{Mem: 21, Block: 9, Fan: 2}, "ax9=1 ax8=2", "ax9=1 ax8=2", []int{1}},
		{api.Shelf{Mem: 40, Block: 9, Fan: 2}, "ax9=1 ax8=2", "ax9=1 ax8=2", []int{1}},
		{api.Shelf{Mem: 41, Block: 9, Fan: 2}, "ax9=1 ax8=2", "ax9=1 ax8=2", nil},
		// Of one key memory has the last one, and its bytes alone.
		{api.Shelf{Mem: 21, Block: 9, Fan: 2}, "ax9=1 ax9=2 ax9! ax9=3", "ax9=3", nil},
		{api.Shelf{Mem: 41, Block: 9, Fan: 2}, "ax9=123456789 ax9=1 bx9=2", "ax9=1 bx9=2", nil},
		{api.Shelf{Mem: 21, Block: 9, Fan: 2}, "ax9! ax9=12 ax9!", "ax9!", []int{1}},
		// Flushed by hand; without cells nothing comes of it.
		{api.Shelf{Mem: 99, Block: 9, Fan: 1}, "flush flush", "", nil},
		{api.Shelf{Mem: 99, Block: 9, Fan: 1}, "ax9=1 flush", "ax9=1", []int{1}},
		{api.Shelf{Mem: 99, Block: 9, Fan: 1}, "ax9=1 flush flush flush", "ax9=1", []int{1}},
		{api.Shelf{Mem: 99, Block: 9, Fan: 1}, "ax9=1 flush bx9=2", "ax9=1 bx9=2", []int{1}},
		{api.Shelf{Mem: 99, Block: 9, Fan: 1}, "ax9=1 flush bx9=2 flush", "ax9=1 bx9=2", []int{0, 1}},
		{api.Shelf{Mem: 99, Block: 9, Fan: 1}, "ax9=1 flush ax9=2 flush flush ax9=3 flush", "ax9=3", []int{1, 1}},
		{api.Shelf{Mem: 99, Block: 9, Fan: 1}, "ax9=1 flush ax9=2 flush ax9=3 flush ax9=4 flush", "ax9=4", []int{0, 1}},
		{api.Shelf{Mem: 99, Block: 9, Fan: 3}, "ax9=1 flush bx9=2 flush ax9=3 flush", "ax9=3 bx9=2", []int{3}},
		{api.Shelf{Mem: 41, Block: 9, Fan: 1}, "ax9=1 flush bx9=2", "ax9=1 bx9=2", []int{1}}, // memory has begun anew
		// Cleaned: one table, the only one of the last level.
		{api.Shelf{Mem: 99, Block: 9, Fan: 1}, "clean9", "", []int{0}},
		{api.Shelf{Mem: 99, Block: 9, Fan: 1}, "clean9 flush clean9", "", []int{0}},
		{api.Shelf{Mem: 99, Block: 9, Fan: 1}, "ax9=1 ax8=2 clean9", "ax9=1", []int{1}},
		{api.Shelf{Mem: 99, Block: 9, Fan: 1}, "ax9=1 ax8=2 clean8", "ax9=1 ax8=2", []int{1}},
		{api.Shelf{Mem: 99, Block: 9, Fan: 1}, "ax9! ax8=2 clean9", "", []int{0}},
		{api.Shelf{Mem: 99, Block: 9, Fan: 1}, "ax9! ax8=2 clean8", "ax9! ax8=2", []int{1}},
		{api.Shelf{Mem: 99, Block: 9, Fan: 1}, "ax9! clean9 bx9=1", "bx9=1", []int{0}},
		{api.Shelf{Mem: 99, Block: 9, Fan: 1}, "ax9! clean9 bx9=1 flush", "bx9=1", []int{1}},
		{api.Shelf{Mem: 99, Block: 9, Fan: 1}, "ax9=1 clean9 bx9=1 flush", "ax9=1 bx9=1", []int{0, 1}},
		{api.Shelf{Mem: 99, Block: 9, Fan: 2}, "ax9=1 clean9 bx9=1 flush", "ax9=1 bx9=1", []int{2}},
		{api.Shelf{Mem: 1, Block: 9, Fan: 2}, "ax8=1 ax7=2 clean8", "ax8=1", []int{1}},
		{api.Shelf{Mem: 1, Block: 9, Fan: 2}, "ax8=1 ax7=2 ax9! clean8", "ax9! ax8=1", []int{0, 1}},
		{api.Shelf{Mem: 1, Block: 9, Fan: 2}, "ax8=1 ax7=2 ax9! bx9=3 by9=4 clean9", "bx9=3 by9=4", []int{0, 1}},
		{api.Shelf{Mem: 1, Block: 9, Fan: 2}, "ax8=1 ax7=2 ax9! clean9", "", []int{0, 0}},
		{api.Shelf{Mem: 1, Block: 9, Fan: 2}, "ax8=1 ax7=2 ax9! clean9 bx9=3", "bx9=3", []int{1, 0}},
		{api.Shelf{Mem: 1, Block: 9, Fan: 2}, "ax8=1 ax7=2 ax9! clean9 bx9=3 clean9", "bx9=3", []int{0, 1}},
		{api.Shelf{Mem: 41, Block: 9, Fan: 2}, "ax8=1 clean9 bx9=1 cx9=1", "ax8=1 bx9=1 cx9=1", []int{1}},
		{api.Shelf{Mem: 41, Block: 9, Fan: 2}, "ax8=1 bx9=1 cx9=1 dx9=2 clean9 ax7=3 ax8!", "ax8! ax7=3 bx9=1 cx9=1 dx9=2", []int{1}},
	} {
		p := begin(t, c.shelf)
		p.do(c.steps)
		if l := p.x.Cells(); !slices.Equal(l, written(c.cells)) {
			t.Errorf("shelf %v, %s: %s, want %s", c.shelf, c.steps, sayAll(l), c.cells)
		}
		if l := p.x.Levels(); !slices.Equal(l, c.levels) {
			t.Errorf("shelf %v, %s: levels %v, want %v", c.shelf, c.steps, l, c.levels)
		}
		p.looks(c.steps)
	}
}

// Level 0 fills up, and gives all it has to level 1, again and again.
func TestLevels(t *testing.T) {
	for fan := 1; fan <= 8; fan++ {
		p := begin(t, api.Shelf{Mem: 1, Block: 40, Fan: fan})
		for i := range 60 {
			p.put(api.Cell{Row: strconv.Itoa(i % 7), Col: "x", At: i % 11, Value: strconv.Itoa(i)})
			want := []int{(i + 1) % (fan + 1), 1}
			if i < fan {
				want = []int{i + 1}
			}
			if l := p.x.Levels(); !slices.Equal(l, want) {
				t.Errorf("Fan %d, %d puts: levels %v, want %v", fan, i+1, l, want)
			}
			p.looks(fmt.Sprint("put ", i))
		}
	}
}

// Memory is flushed as soon as it has Mem bytes, for all Mem around what a few cells of
// several lengths have.
func TestMemory(t *testing.T) {
	for most := 1; most <= 150; most++ {
		p := begin(t, api.Shelf{Mem: most, Block: 20, Fan: 3})
		for i, n := range []int{0, 1, 40, 3, 256, 0, 7, 7, 7, 2, 90, 1} {
			p.put(api.Cell{Row: of(1 + i%3), Col: "x", At: i % 4, Value: of(n)})
			p.looks(fmt.Sprint("put ", i))
		}
	}
	longest := api.Cell{Row: of(64), Col: of(64), At: mostAt, Value: of(256)}
	for _, most := range []int{400, 401, 402, 801, 802, 803, 4009, 4010, 4011, 4096} {
		p := begin(t, api.Shelf{Mem: most, Block: 1, Fan: 8})
		for i := range 12 {
			c := longest
			c.At -= i
			p.put(c)
			p.looks(fmt.Sprintf("Mem %d, put %d", most, i))
		}
	}
}

// A cell of each kind behind another one with its key, with the first one in memory, in
// level 0, and in level 1, and with others beside it.
func TestPutInThePlaceOfAnother(t *testing.T) {
	kinds := []string{"bx3=", "bx3=v", "bx3=w", "bx3=longer", "bx3!"}
	for _, between := range []string{"", "flush", "flush ax1=1 flush", "bx4=1 flush bx2=1 flush", "bx4! bx2! flush", "by3=1 ax3!", "clean2"} {
		for _, a := range kinds {
			for _, b := range kinds {
				for fan := 1; fan <= 2; fan++ {
					p := begin(t, api.Shelf{Mem: 999, Block: 20, Fan: fan})
					steps := a + " " + between + " " + b
					p.do(steps)
					p.looks(steps)
					p.do("flush")
					p.looks(steps + " flush")
					p.do("cx1=1 flush")
					p.looks(steps + " flush cx1=1 flush")
				}
			}
		}
	}
}

// Keys that differ by one part alone are two, and so are those whose parts are the
// same bytes one behind the other.
func TestPutBesideAnother(t *testing.T) {
	for _, l := range [][]api.Cell{
		{{Row: "a", Col: "x", At: 3}, {Row: "a", Col: "x", At: 2}}, {{Row: "a", Col: "x", At: mostAt}, {Row: "a", Col: "x"}},
		{{Row: "a", Col: "x", At: 3}, {Row: "a", Col: "y", At: 3}}, {{Row: "a", Col: "x"}, {Row: "b", Col: "x"}},
		{{Row: "a", Col: "bc"}, {Row: "ab", Col: "c"}}, {{Row: "a", Col: "x"}, {Row: "a", Col: "x\x00"}},
		{{Row: "a", Col: "x"}, {Row: "a\x00", Col: "x"}}, {{Row: "A", Col: "x"}, {Row: "a", Col: "x"}},
		{{Row: "a", Col: "x", At: 1 << 31}, {Row: "a", Col: "x"}}, {{Row: "\x7f", Col: "x"}, {Row: "\x80", Col: "x"}},
	} {
		for _, s := range shelves() {
			made(t, s, l).looks("in order")
			made(t, s, []api.Cell{l[1], l[0]}).looks("the other way round")
			made(t, s, []api.Cell{l[1], l[0], l[1]}).looks("and again")
		}
	}
}

// Nothing is changed by a cell that isn't right, wherever the others stand, and what
// comes then is put as ever.
func TestPutOfWrongOnes(t *testing.T) {
	for _, s := range shelves() {
		for _, steps := range []string{"", "ax1=1", "ax1=1 ax0=2 bx1!", "ax1=1 flush ax0=2", "ax1=1 flush ax0=2 flush", "ax1! clean1"} {
			for _, c := range wrong() {
				p := begin(t, s)
				p.do(steps)
				p.put(c)
				if e := p.x.Put(c); e != api.ErrArg {
					t.Errorf("Put(%s) = %d", say(c), e)
				}
				p.looks(steps)
				p.do("ax1=2 bx0=3 flush")
				p.looks(steps + ", a wrong one, and more")
			}
		}
	}
}

// P14.1: MaxCells

// full has as many cells as may be, all in all places, with the longest names.
func full(t *testing.T, s api.Shelf) *pair {
	t.Helper()
	p := begin(t, s)
	for i := range 400 {
		p.put(fullCell(i))
	}
	if l := p.x.Cells(); len(l) != 400 {
		t.Fatalf("shelf %v: %s", s, sayAll(l))
	}
	return p
}

func fullCell(i int) api.Cell {
	c := api.Cell{Row: fmt.Sprintf("%s%03d", of(61), i*177%400), Col: of(64), At: mostAt - i%5}
	if i%7 == 0 {
		c.Gone = true
	} else {
		c.Value = strconv.Itoa(i)
	}
	return c
}

func TestFull(t *testing.T) {
	for _, s := range shelves() {
		p := full(t, s)
		p.looks("full")
		for _, c := range []api.Cell{{Row: "a", Col: "x"}, {Row: "a", Col: "x", Gone: true}, {Row: fullCell(9).Row, Col: of(64), At: 7, Value: of(256)}} {
			p.put(c)
			if e := p.x.Put(c); e != api.ErrFull {
				t.Errorf("Put(%s) = %d", say(c), e)
			}
			p.same("one too many")
		}
		for _, c := range wrong() {
			p.put(c) // ErrArg: it is named first
		}
		p.same("wrong ones")
		for _, i := range []int{0, 1, 200, 398, 399} { // these keys are there, wherever they stand
			c := fullCell(i)
			c.Value, c.Gone = "again", false
			p.put(c)
			p.same(fmt.Sprint("in the place of ", i))
			p.put(api.Cell{Row: "a", Col: "x"})
		}
		p.flush()
		p.put(api.Cell{Row: "a", Col: "x"})
		p.looks("flushed")
		p.clean(-1)
		p.put(api.Cell{Row: "a", Col: "x"})
		p.looks("all in one table")
	}
}

// A tree that is full, and lacks but one byte in memory, isn't flushed by a put that is
// refused.
func TestFullIsNotFlushed(t *testing.T) {
	p := begin(t, api.Shelf{Mem: 401, Block: 1000, Fan: 8})
	for i := range 400 {
		p.put(api.Cell{Row: fmt.Sprintf("%03d", i), Col: "x"})
	}
	for len(p.d.memory) == 0 || sum(p.d.memory) < 400-30 {
		p.put(api.Cell{Row: fmt.Sprintf("%03d", len(p.d.memory)), Col: "x", Value: of(10)})
	}
	was := p.x.Levels()
	if e := p.x.Put(api.Cell{Row: "a", Col: "x", Value: of(256)}); e != api.ErrFull || !slices.Equal(p.x.Levels(), was) {
		t.Errorf("%d, levels %v, want %v", e, p.x.Levels(), was)
	}
	p.looks("full")
}

// Cells of one key count once, those that are gone or hidden count too, and those that a
// cleaning took no longer.
func TestRoom(t *testing.T) {
	for _, s := range shelves() {
		p := begin(t, s)
		for i := range 900 {
			p.put(api.Cell{Row: "r", Col: "x", At: i % 399, Gone: i%3 == 0})
		}
		p.same("399 keys")
		p.put(api.Cell{Row: "r", Col: "x", At: 399})
		p.put(api.Cell{Row: "r", Col: "x", At: 400}) // no more
		p.looks("400 keys")
		p.clean(99)
		p.same("cleaned")
		for i := range 120 {
			p.put(api.Cell{Row: "r", Col: "y", At: i})
			p.put(api.Cell{Row: "r", Col: "y", At: i, Gone: true})
		}
		p.looks("full again")
		p.clean(mostAt)
		p.looks("cleaned again")
		for i := range 402 {
			p.put(api.Cell{Row: "r", Col: "z", At: i, Value: "v"})
		}
		p.looks("and full")
		if len(p.x.Cells()) != 400 {
			t.Errorf("shelf %v: %s", s, sayAll(p.x.Cells()))
		}
	}
}

// P14.2

// A look finds the newest cell, wherever that stands: what was put later may be of an
// earlier time.
func TestGetByTheLetter(t *testing.T) {
	for _, c := range []struct {
		steps string
		at    int
		want  string
		ok    bool
	}{
		{"", 9, "", false},
		{"ax5=v", 4, "", false},
		{"ax5=v", 5, "v", true},
		{"ax5=v", 6, "v", true},
		{"ax5=", 6, "", true}, // an empty value is one
		{"ax5!", 6, "", false},
		{"ax5=5 flush ax3=3", 9, "5", true},
		{"ax5=5 flush ax3=3", 5, "5", true},
		{"ax5=5 flush ax3=3", 4, "3", true},
		{"ax5=5 flush ax3=3", 2, "", false},
		{"ax3=3 flush ax5=5", 9, "5", true},
		{"ax3=3 flush ax5=5", 4, "3", true},
		{"ax5! flush ax3=3", 9, "", false},
		{"ax5! flush ax3=3", 4, "3", true},
		{"ax5=5 flush ax3!", 9, "5", true},
		{"ax5=5 flush ax3!", 4, "", false},
		{"ax3=3 flush ax5!", 9, "", false},
		{"ax3=3 flush ax5!", 4, "3", true},
		{"ax5=1 flush ax5=2", 9, "2", true},
		{"ax5=1 flush ax5!", 9, "", false},
		{"ax5! flush ax5=2", 9, "2", true},
		{"ax5=1 flush ax5=", 9, "", true},
		{"ax5=1 flush ax5=2 flush", 9, "2", true},
		{"ax5=1 flush ax5=2 flush ax5=3", 9, "3", true},
		{"ax5=1 flush ax5=2 flush ax4=3 flush", 9, "2", true},
		{"ax5=1 flush ax4=2 flush ax3=3 flush ax2=4", 9, "1", true},
		{"ax5=1 flush ax4=2 flush ax3=3 flush ax2=4", 4, "2", true},
		{"ax5=1 flush ax4=2 flush ax3=3 flush ax2=4", 3, "3", true},
		{"ax5=1 flush ax4=2 flush ax3=3 flush ax2=4", 2, "4", true},
		{"ax5=1 flush ax4=2 flush ax3=3 flush ax2=4", 1, "", false},
		{"ax5=1 clean4 ax5=2 flush ax5=3 flush", 5, "3", true},
		{"ax0=0", 0, "0", true},
		{"ax0=0", -1, "", false},
		{"ax4294967295=m ax0=0", 4294967294, "0", true},
		{"ax4294967295=m ax0=0", math.MaxInt, "m", true},
		{"ay5=1 flush bx5=2 flush aw5=3", 9, "", false},
		{"ax5=1 flush ax9=2 ay7=3", 8, "1", true},
	} {
		for fan := 1; fan <= 3; fan++ {
			p := begin(t, api.Shelf{Mem: 999, Block: 20, Fan: fan})
			p.do(c.steps)
			if v, ok := p.x.Get("a", "x", c.at); v != c.want || ok != c.ok {
				t.Errorf("Fan %d, %s: at %d %q, %v", fan, c.steps, c.at, v, ok)
			}
			p.looks(c.steps)
		}
	}
}

func TestScanByTheLetter(t *testing.T) {
	steps := "ax9=1 ay9=2 flush bx9=4 bx8=5 flush cx9! cx8=6 flush dx9=7 ax5=8"
	for _, c := range []struct {
		from, to string
		at       int
		want     string
	}{
		{"", "", 9, "ax9=1 ay9=2 bx9=4 dx9=7"}, {"", "", 8, "ax5=8 bx8=5 cx8=6"}, {"", "", 7, "ax5=8"}, {"", "", 4, ""}, {"", "", -1, ""},
		{"a", "", 9, "ax9=1 ay9=2 bx9=4 dx9=7"}, {"a\x00", "", 9, "bx9=4 dx9=7"}, {"b", "", 9, "bx9=4 dx9=7"}, {"c", "", 9, "dx9=7"}, {"d", "", 9, "dx9=7"}, {"e", "", 9, ""},
		{"", "a", 9, ""}, {"", "a\x00", 9, "ax9=1 ay9=2"}, {"", "b", 9, "ax9=1 ay9=2"}, {"", "c", 9, "ax9=1 ay9=2 bx9=4"}, {"", "d", 9, "ax9=1 ay9=2 bx9=4"}, {"", "e", 9, "ax9=1 ay9=2 bx9=4 dx9=7"},
		{"a", "b", 9, "ax9=1 ay9=2"}, {"b", "c", 9, "bx9=4"}, {"b", "d", 8, "bx8=5 cx8=6"}, {"c", "d", 9, ""}, {"c", "d", 8, "cx8=6"},
		{"a", "a", 9, ""}, {"b", "b", 9, ""}, {"b", "a", 9, ""}, {"d", "a", 9, ""}, {"e", "\x00", 9, ""},
	} {
		for fan := 1; fan <= 3; fan++ {
			p := begin(t, api.Shelf{Mem: 999, Block: 20, Fan: fan})
			p.do(steps)
			if l := p.x.Scan(c.from, c.to, c.at); !slices.Equal(l, written(c.want)) {
				t.Errorf("Fan %d: from %q to %q at %d %s, want %s", fan, c.from, c.to, c.at, sayAll(l), c.want)
			}
		}
	}
}

// Names and times at all edges, in all places.
func TestReads(t *testing.T) {
	for i, s := range shelves() {
		p := made(t, s, shuffled(many(), i))
		p.looks("many")
		for j, from := range bounds() {
			for k, to := range bounds() {
				p.scan("many", from, to, times()[(i+j+k)%len(times())])
			}
			for _, col := range []string{"", "\x00", "a", "ab", "b", "bb", "\xff", of(64), of(65)} {
				for _, at := range times() {
					p.get("many", from, col, at)
				}
			}
		}
	}
}

// P14.3

// All cells and levels at each time of cleaning, with cells in memory, and in one level
// and in two.
func TestClean(t *testing.T) {
	for i, s := range shelves() {
		for _, n := range []int{0, 1, 2, 3, 7, 20, 60} {
			for _, upto := range times() {
				p := made(t, s, shuffled(many()[:max(n, 40)], i)[:n])
				p.clean(upto)
				p.looks(fmt.Sprintf("%d cells, up to %d", n, upto))
				p.flush()
				p.same("flushed behind it")
				for _, c := range shuffled(many(), i+1)[:9] {
					p.put(c)
				}
				p.looks("and more")
				p.clean(upto)
				p.same("cleaned again")
			}
		}
	}
}

// A cell that is gone hides those in other places too, and goes with them only.
func TestCleanOverAllPlaces(t *testing.T) {
	cells := []string{"ax9=9", "ax7!", "ax5=5", "ax3=3"}
	for order := range 24 {
		left := slices.Clone(cells)
		var steps []string
		for n, o := 4, order; n > 0; n, o = n-1, o/n {
			steps = append(steps, left[o%n])
			left = slices.Delete(left, o%n, o%n+1)
		}
		for _, between := range []string{" ", " flush "} {
			for upto := -1; upto <= 10; upto++ {
				for fan := 1; fan <= 4; fan++ {
					p := begin(t, api.Shelf{Mem: 999, Block: 20, Fan: fan})
					p.do(strings.Join(steps, between))
					p.clean(upto)
					p.looks(fmt.Sprintf("%v, up to %d", steps, upto))
				}
			}
		}
	}
}

// P14.1 to P14.4: all short lists of steps

func TestAllShortLists(t *testing.T) {
	kinds := []string{"ax2=", "ax2!", "ax1=", "ax1!", "bx1=", "flush", "clean1", "clean2"}
	var lists func(steps []string)
	lists = func(steps []string) {
		for _, s := range []api.Shelf{{Mem: 1, Block: 1, Fan: 1}, {Mem: 1, Block: 30, Fan: 2}, {Mem: 30, Block: 20, Fan: 1}, {Mem: 999, Block: 20, Fan: 1}} {
			p := begin(t, s)
			p.do(strings.Join(steps, " "))
			p.looks(strings.Join(steps, " "))
		}
		if len(steps) == 4 {
			return
		}
		for _, k := range kinds {
			if strings.HasSuffix(k, "=") {
				k += strconv.Itoa(len(steps)) // which put it was
			}
			lists(append(slices.Clone(steps), k))
		}
	}
	lists(nil)
}

// P14.4

// However it was flushed, and whatever the shelf is, a tree tells of the list of what
// was put.
func TestHoweverItWasFlushed(t *testing.T) {
	for seed := range 6 {
		r := rand.New(rand.NewSource(int64(seed)))
		l := madeUp(r, 150)
		var want []api.Cell
		for _, s := range shelves() {
			for _, often := range []int{0, 1, 2, 5, 30} {
				p := begin(t, s)
				for _, c := range l {
					p.put(c)
					if often > 0 && r.Intn(often) == 0 {
						p.flush()
					}
				}
				p.looks(fmt.Sprint("flushed one by ", often))
				if want == nil {
					want = p.x.Cells()
				}
				if got := p.x.Cells(); !slices.Equal(got, want) {
					t.Errorf("shelf %v, flushed one by %d: %s\n\twant %s", s, often, sayAll(got), sayAll(want))
				}
			}
		}
	}
}

// madeUp are right cells of a few keys, each of which is put several times.
func madeUp(r *rand.Rand, n int) []api.Cell {
	var l []api.Cell
	for i := range n {
		c := api.Cell{Row: string(rune('a' + r.Intn(4))), Col: string(rune('x' + r.Intn(2))), At: r.Intn(9), Gone: r.Intn(4) == 0}
		if !c.Gone {
			c.Value = strconv.Itoa(i) + of(r.Intn(9))
		}
		l = append(l, c)
	}
	return l
}

// At each time from upto on a tree tells the same behind Clean, and it doesn't matter
// whether it is flushed ahead of that.
func TestWhatFollowsOfCleaning(t *testing.T) {
	for seed := range 12 {
		r := rand.New(rand.NewSource(int64(seed)))
		s := shelves()[seed%len(shelves())]
		l := madeUp(r, 10+r.Intn(60))
		for upto := -1; upto <= 10; upto++ {
			p, q, was := made(t, s, l), made(t, s, l), made(t, s, l)
			p.clean(upto)
			q.flush()
			q.clean(upto)
			if got, want := q.x.Cells(), p.x.Cells(); !slices.Equal(got, want) {
				t.Errorf("flushed, and cleaned up to %d: %s\n\twant %s", upto, sayAll(got), sayAll(want))
			}
			for at := upto; at <= 11; at++ {
				if got, want := p.x.Scan("", "", at), was.x.Scan("", "", at); !slices.Equal(got, want) {
					t.Errorf("cleaned up to %d, at %d: %s\n\twant %s", upto, at, sayAll(got), sayAll(want))
				}
				for _, c := range l {
					got, ok := p.x.Get(c.Row, c.Col, at)
					if want, is := was.x.Get(c.Row, c.Col, at); got != want || ok != is {
						t.Errorf("cleaned up to %d, at %d: %q, %v, want %q, %v", upto, at, got, ok, want, is)
					}
				}
			}
		}
	}
}

// checkSteps takes steps of the bytes, three for each.
func checkSteps(t *testing.T, b []byte) {
	if len(b) < 3 {
		return
	}
	p := begin(t, api.Shelf{Mem: 1 + int(b[0])%150, Block: 1 + int(b[1])%90, Fan: 1 + int(b[2])%8})
	for i := 3; i+3 <= min(len(b), 1200); i += 3 {
		switch x, y, z := b[i], b[i+1], b[i+2]; {
		case x%16 == 0:
			p.flush()
		case x == 17:
			p.clean(int(y%12) - 2)
		default:
			c := api.Cell{Row: of(int(y % 4)), Col: string('x' + rune(y>>2%3)), At: int(z%10) - 1, Gone: x%5 == 0}
			if x%5 != 0 || x == 85 {
				c.Value = strconv.Itoa(i)
			}
			p.put(c)
		}
		p.same(fmt.Sprintf("%x", b[:i+3]))
	}
	p.looks(fmt.Sprintf("%x", b))
}

func TestStepsOfBytes(t *testing.T) {
	r := rand.New(rand.NewSource(14))
	for range 150 {
		b := make([]byte, r.Intn(600))
		r.Read(b)
		checkSteps(t, b)
	}
}

func FuzzSteps(f *testing.F) {
	f.Add([]byte{1, 2, 3, 1, 2, 4, 9, 9, 9, 16, 0, 0, 17, 5, 5, 3, 3, 3})
	f.Add([]byte(strings.Repeat("abcdefg", 30)))
	f.Fuzz(checkSteps)
}

// P14.5

// spoil writes over all that the list has, and over the memory behind it.
func spoil(l []api.Cell) {
	l = l[:cap(l)]
	for i := range l {
		l[i] = api.Cell{Row: "other", Col: "other", At: 99, Value: "other"}
	}
}

func spoilLevels(l []int) {
	l = l[:cap(l)]
	for i := range l {
		l[i] = 99
	}
}

// told are all lists of cells that a tree tells.
func told(x *tree.Tree) [][]api.Cell {
	return [][]api.Cell{x.Cells(), x.Scan("", "", mostAt), x.Scan("", "", 7), x.Scan("b", "", 7), x.Scan("", "b", 7), x.Scan("a", "b", mostAt), x.Scan("b", "a", 7)}
}

func TestWhatIsToldIsNewMemory(t *testing.T) {
	for i, s := range shelves() {
		p := begin(t, s)
		for j, c := range shuffled(many(), i)[:90] {
			p.put(c)
			if j == 60 {
				p.clean(3)
			}
			for _, l := range told(p.x) {
				spoil(l)
				_ = append(l, api.Cell{Row: "more"})
			}
			levels := p.x.Levels()
			spoilLevels(levels)
			_ = append(levels, 7)
			p.same("behind a change of an answer")
		}
		p.looks("behind many changes")
	}
}

// Two answers share nothing either, and what was told stays, whatever is done then.
func TestAnswersStay(t *testing.T) {
	for i, s := range shelves() {
		p := made(t, s, shuffled(many(), i))
		was, levels := told(p.x), p.x.Levels()
		var copies [][]api.Cell
		for _, l := range was {
			copies = append(copies, slices.Clone(l))
		}
		count := slices.Clone(levels)
		for _, l := range told(p.x) {
			spoil(l)
		}
		spoilLevels(p.x.Levels())
		for j, c := range many() {
			c.Value, c.Gone = "other", false
			p.put(c)
			if j%50 == 0 {
				p.flush()
			}
		}
		p.clean(mostAt)
		p.put(api.Cell{Row: "a", Col: "x"})
		for j, l := range was {
			if !slices.Equal(l, copies[j]) {
				t.Errorf("shelf %v: answer %d has changed", s, j)
			}
		}
		if !slices.Equal(levels, count) {
			t.Errorf("shelf %v: the levels that were told have changed", s)
		}
	}
}

// To ask changes nothing, and two trees have nothing of each other.
func TestAskingChangesNothing(t *testing.T) {
	for i, s := range shelves() {
		p, q := made(t, s, shuffled(many(), i)), begin(t, s)
		for range 2 {
			for _, row := range bounds() {
				p.x.Get(row, "a", 7)
				p.x.Scan(row, "b", 7)
			}
			told(p.x)
			p.x.Levels()
			p.same("asked")
			q.put(api.Cell{Row: "q", Col: "q"})
			q.same("the other one")
		}
		p.clean(9)
		q.flush()
		p.looks("asked, and cleaned")
		q.looks("the other one, flushed")
	}
}

// P1: every call ends, whatever it is given. A tree that New didn't make has nothing,
// and keeps nothing.
func TestNoCallPanics(t *testing.T) {
	for _, s := range shelves() {
		p := begin(t, s)
		for _, c := range slices.Concat(wrong(), many()[:30], wrong()) {
			for _, at := range times() {
				p.x.Get(c.Row, c.Col, at)
				p.x.Scan(c.Row, c.Col, at)
				p.x.Scan(c.Col, c.Row, at)
			}
			p.put(c)
			p.clean(c.At)
			p.flush()
		}
		p.looks("whatever")
	}
	var x tree.Tree
	for _, c := range append(wrong(), many()...) {
		if e := x.Put(c); e != api.ErrArg {
			t.Errorf("Put(%s) = %d", say(c), e)
		}
		x.Flush()
		x.Clean(c.At)
		v, ok := x.Get(c.Row, c.Col, c.At)
		if v != "" || ok || len(x.Cells()) != 0 || len(x.Scan("", "", mostAt)) != 0 || !slices.Equal(x.Levels(), []int{0}) {
			t.Errorf("%q, %v, %v", v, ok, x.Levels())
		}
	}
}
