package mem_test

import (
	"fmt"
	"math"
	"math/rand"
	"slices"
	"sort"
	"strings"
	"testing"

	"shardlog/api"
	"shardlog/mem"
)

const mostAt = 1<<32 - 1

// The words of the chapter once more: a list of all that was put, looked through
// from one end to the other.

type model struct{ puts []api.Cell }

func isRight(c api.Cell) bool {
	for _, s := range []string{c.Row, c.Col} {
		if len(s) < 1 || len(s) > 64 {
			return false
		}
	}
	if c.At < 0 || c.At > mostAt || len(c.Value) > 256 {
		return false
	}
	return !c.Gone || c.Value == ""
}

func sameKey(a, b api.Cell) bool { return a.Row == b.Row && a.Col == b.Col && a.At == b.At }

func ahead(a, b api.Cell) bool {
	if a.Row != b.Row {
		return a.Row < b.Row
	}
	if a.Col != b.Col {
		return a.Col < b.Col
	}
	return a.At > b.At
}

func (m *model) put(c api.Cell) bool {
	if isRight(c) {
		m.puts = append(m.puts, c)
	}
	return isRight(c)
}

// cells are the last ones of each key, in order.
func (m *model) cells() []api.Cell {
	var l []api.Cell
	for i, c := range m.puts {
		if !slices.ContainsFunc(m.puts[i+1:], func(d api.Cell) bool { return sameKey(c, d) }) {
			l = append(l, c)
		}
	}
	sort.Slice(l, func(i, j int) bool { return ahead(l[i], l[j]) })
	return l
}

// get is the latest one that isn't too late.
func get(l []api.Cell, row, col string, at int) (api.Cell, bool) {
	var best api.Cell
	found := false
	for _, c := range l {
		if c.Row == row && c.Col == col && c.At <= at && (!found || c.At > best.At) {
			best, found = c, true
		}
	}
	return best, found
}

func rows(l []api.Cell, from, to string) []api.Cell {
	var some []api.Cell
	for _, c := range l {
		if c.Row >= from && (to == "" || c.Row < to) {
			some = append(some, c)
		}
	}
	return some
}

// sum counts the bytes: three lengths, a number and a byte beside the texts.
func sum(l []api.Cell) int {
	n := 0
	for _, c := range l {
		n += 17 + len(c.Row) + len(c.Col) + len(c.Value)
	}
	return n
}

// Messages.

func say(c api.Cell) string {
	return fmt.Sprintf("(%.70q %.70q %d %.20q %v)", c.Row, c.Col, c.At, c.Value, c.Gone)
}

// sayAll is some of them: all would fill the screen.
func sayAll(l []api.Cell) string {
	var b strings.Builder
	fmt.Fprintf(&b, "%d cells ", len(l))
	for _, c := range l[:min(len(l), 12)] {
		b.WriteString(say(c))
	}
	return b.String()
}

// Holding a table against cells.

// expect holds what is told of all cells against them, and each that is there
// against what is got.
func expect(t *testing.T, what string, m *mem.Mem, want []api.Cell) {
	t.Helper()
	if got := m.Cells(); !slices.Equal(got, want) {
		t.Errorf("%s: %s, want %s", what, sayAll(got), sayAll(want))
	}
	if m.Len() != len(want) || m.Size() != sum(want) {
		t.Errorf("%s: %d cells of %d bytes, want %d of %d", what, m.Len(), m.Size(), len(want), sum(want))
	}
	if got := m.Rows("", ""); !slices.Equal(got, want) {
		t.Errorf("%s: rows %s, want %s", what, sayAll(got), sayAll(want))
	}
	for _, c := range want {
		if got, ok := m.Get(c.Row, c.Col, c.At); got != c || !ok {
			t.Errorf("%s: at the place of %s there is %s, %v", what, say(c), say(got), ok)
		}
	}
}

func expectGet(t *testing.T, m *mem.Mem, l []api.Cell, row, col string, at int) {
	t.Helper()
	got, ok := m.Get(row, col, at)
	if want, is := get(l, row, col, at); got != want || ok != is {
		t.Errorf("of %s Get(%.70q, %.70q, %d) = %s, %v, want %s, %v", sayAll(l), row, col, at, say(got), ok, say(want), is)
	}
}

func expectRows(t *testing.T, m *mem.Mem, l []api.Cell, from, to string) {
	t.Helper()
	if got, want := m.Rows(from, to), rows(l, from, to); !slices.Equal(got, want) {
		t.Errorf("of %s Rows(%.70q, %.70q) = %s, want %s", sayAll(l), from, to, sayAll(got), sayAll(want))
	}
}

func expectPut(t *testing.T, m *mem.Mem, c api.Cell) {
	t.Helper()
	if !m.Put(c) {
		t.Errorf("%s isn't put", say(c))
	}
}

func made(t *testing.T, l []api.Cell) *mem.Mem {
	t.Helper()
	m := mem.New()
	for _, c := range l {
		expectPut(t, m, c)
	}
	return m
}

// What is put and asked.

func of(n int) string { return strings.Repeat("n", n) }

// names stand close to each other, or are at the edges.
func names() []string {
	return []string{
		"a", "aa", "ab", "b", "B", "ba", "a\x00", "a\x00a", "a\xff", "\x00", "\x00\x00", "\x7f", "\x80", "\xff", "\xff\xff",
		"gr\u00fc\u00df", "\uffff", "\U00010000", of(63), of(64), strings.Repeat("\x00", 64), strings.Repeat("\xff", 64),
	}
}

// bounds are names, and such as no cell can have.
func bounds() []string {
	return append(names(), "", "c", "\x00\x00\x00", "\x01", of(65), of(1<<16), strings.Repeat("\xff", 65))
}

func times() []int {
	return []int{math.MinInt, -1 << 32, -1, 0, 1, 2, 3, 4, 6, 7, 8, 1<<31 - 1, 1 << 31, mostAt - 1, mostAt, mostAt + 1, math.MaxInt}
}

// many are right cells of all kinds, in order.
func many() []api.Cell {
	var l []api.Cell
	for i, row := range names() {
		for j, col := range []string{"\x00", "a", "ab", "b", "\xff", of(64)}[i%3:] {
			for k, at := range []int{mostAt, mostAt - 1, 7, 3, 0} {
				if (i+j+k)%4 == 0 {
					l = append(l, api.Cell{Row: row, Col: col, At: at, Gone: true})
				} else {
					l = append(l, api.Cell{Row: row, Col: col, At: at, Value: strings.Repeat("v", (i*j*k*37)%257)})
				}
			}
		}
	}
	sort.Slice(l, func(i, j int) bool { return ahead(l[i], l[j]) })
	return l
}

// wrong are cells that aren't right, each by one thing alone, or by all.
func wrong() []api.Cell {
	l := []api.Cell{{}, {Gone: true}, {Value: "v"}}
	for _, name := range []string{"", of(65), of(1 << 16), strings.Repeat("\u00e9", 33)} {
		l = append(l, api.Cell{Row: name, Col: "x", At: 1}, api.Cell{Row: "a", Col: name, At: 1}, api.Cell{Row: name, Col: "x", Gone: true})
	}
	for _, at := range []int{math.MinInt, -1 << 32, -1, mostAt + 1, mostAt + 2, math.MaxInt} {
		l = append(l, api.Cell{Row: "a", Col: "x", At: at, Value: "v"}, api.Cell{Row: "a", Col: "x", At: at, Gone: true})
	}
	for _, v := range []string{strings.Repeat("v", 257), strings.Repeat("v", 1<<16), strings.Repeat("\u00e9", 129)} {
		l = append(l, api.Cell{Row: "a", Col: "x", At: 1, Value: v}, api.Cell{Row: "a", Col: "x", At: 1, Value: v, Gone: true})
	}
	return append(l, api.Cell{Row: "a", Col: "x", At: 1, Value: "v", Gone: true}, api.Cell{Row: "a", Col: "x", Value: "\x00", Gone: true})
}

// shuffled is the same cells in some other order, always the same one.
func shuffled(l []api.Cell, seed int) []api.Cell {
	c := slices.Clone(l)
	rand.New(rand.NewSource(int64(seed))).Shuffle(len(c), func(i, j int) { c[i], c[j] = c[j], c[i] })
	return c
}

// few are cells of a few keys, each with several things at it.
func few() []api.Cell {
	var l []api.Cell
	for _, row := range []string{"a", "ab"} {
		for _, col := range []string{"x", "xy"} {
			for _, at := range []int{0, 3, 4} {
				k := api.Cell{Row: row, Col: col, At: at}
				for _, v := range []string{"", "v", "longer"} {
					k.Value = v
					l = append(l, k)
				}
				l = append(l, api.Cell{Row: row, Col: col, At: at, Gone: true})
			}
		}
	}
	return l
}

// P9.1

func TestNewIsEmpty(t *testing.T) {
	m := mem.New()
	expect(t, "new", m, nil)
	for _, row := range bounds() {
		for _, at := range times() {
			expectGet(t, m, nil, row, "x", at)
		}
		for _, to := range bounds() {
			expectRows(t, m, nil, row, to)
		}
	}
}

// Each table has cells of its own.
func TestNewOnes(t *testing.T) {
	m, n := mem.New(), mem.New()
	c, d := api.Cell{Row: "a", Col: "x", At: 1, Value: "v"}, api.Cell{Row: "b", Col: "x", At: 1, Gone: true}
	expectPut(t, m, c)
	expect(t, "the other one", n, nil)
	expectPut(t, n, d)
	expect(t, "this one", m, []api.Cell{c})
	expect(t, "the other one", n, []api.Cell{d})
	expect(t, "a third one", mem.New(), nil)
}

func TestPutByTheLetter(t *testing.T) {
	m := mem.New()
	for i, step := range []struct {
		put  api.Cell
		size int
		want string
	}{
		{api.Cell{Row: "b", Col: "x", At: 3, Value: "1"}, 20, "bx3=1"},
		{api.Cell{Row: "a", Col: "x", At: 3, Value: "22"}, 41, "ax3=22 bx3=1"},
		{api.Cell{Row: "a", Col: "x", At: 9, Value: "3"}, 61, "ax9=3 ax3=22 bx3=1"}, // the later one ahead
		{api.Cell{Row: "a", Col: "w", At: 0}, 80, "aw0= ax9=3 ax3=22 bx3=1"},
		{api.Cell{Row: "ab", Col: "a", At: 5, Value: "4"}, 101, "aw0= ax9=3 ax3=22 aba5=4 bx3=1"},
		{api.Cell{Row: "a", Col: "x", At: 3, Value: "5"}, 100, "aw0= ax9=3 ax3=5 aba5=4 bx3=1"}, // the second one of the key
		{api.Cell{Row: "b", Col: "x", At: 3, Gone: true}, 99, "aw0= ax9=3 ax3=5 aba5=4 bx3!"},
		{api.Cell{Row: "b", Col: "x", At: 3, Value: "666"}, 102, "aw0= ax9=3 ax3=5 aba5=4 bx3=666"},
		{api.Cell{Row: "b", Col: "x", At: 3}, 99, "aw0= ax9=3 ax3=5 aba5=4 bx3="},
		{api.Cell{Row: "b", Col: "x", At: 4, Gone: true}, 118, "aw0= ax9=3 ax3=5 aba5=4 bx4! bx3="},
	} {
		ok := m.Put(step.put)
		var told []string
		for _, c := range m.Cells() {
			mark := "="
			if c.Gone {
				mark = "!"
			}
			told = append(told, fmt.Sprintf("%s%s%d%s%s", c.Row, c.Col, c.At, mark, c.Value))
		}
		if got := strings.Join(told, " "); !ok || got != step.want || m.Size() != step.size || m.Len() != len(told) {
			t.Errorf("step %d: %v, %s, %d of %d bytes, want %s of %d bytes", i, ok, got, m.Len(), m.Size(), step.want, step.size)
		}
	}
}

// The shortest and the longest cell, and the longest one that is gone.
func TestPutAtTheEdges(t *testing.T) {
	for _, s := range []struct {
		c    api.Cell
		size int
	}{
		{api.Cell{Row: "r", Col: "c"}, 19},
		{api.Cell{Row: "r", Col: "c", Gone: true}, 19},
		{api.Cell{Row: "\x00", Col: "\x00", At: mostAt, Value: "\x00"}, 20},
		{api.Cell{Row: of(64), Col: of(64), At: mostAt, Value: strings.Repeat("v", 256)}, 401},
		{api.Cell{Row: of(64), Col: of(64), At: mostAt, Gone: true}, 145},
		{api.Cell{Row: "\u00e9", Col: "\u00e9", Value: "\u00e9"}, 23},
	} {
		m := made(t, []api.Cell{s.c})
		expect(t, "the one", m, []api.Cell{s.c})
		if m.Size() != s.size {
			t.Errorf("%s: %d bytes, want %d", say(s.c), m.Size(), s.size)
		}
		expectPut(t, m, s.c)
		expect(t, "put twice", m, []api.Cell{s.c})
	}
}

// Each thing at a key behind each other: the second one is there, and alone.
func TestPutInThePlaceOfAnother(t *testing.T) {
	key := api.Cell{Row: "b", Col: "x", At: 3}
	var l []api.Cell
	for _, v := range []string{"", "v", "w", "\x00", "longer", strings.Repeat("v", 256)} {
		c := key
		c.Value = v
		l = append(l, c)
	}
	l = append(l, api.Cell{Row: "b", Col: "x", At: 3, Gone: true})
	beside := []api.Cell{{Row: "b", Col: "x", At: 4, Value: "4"}, {Row: "b", Col: "x", At: 2, Value: "2"}}
	for _, c := range l {
		for _, d := range l {
			m := made(t, []api.Cell{c, d})
			expect(t, "alone", m, []api.Cell{d})
			m = made(t, []api.Cell{c, beside[0], beside[1], d})
			expect(t, "between others", m, []api.Cell{beside[0], d, beside[1]})
		}
	}
}

// Keys that differ by one part alone are two, and so are those whose parts are the
// same bytes one behind the other.
func TestPutBesideAnother(t *testing.T) {
	for _, pair := range [][]api.Cell{
		{{Row: "a", Col: "x", At: 3}, {Row: "a", Col: "x", At: 2}}, {{Row: "a", Col: "x", At: mostAt}, {Row: "a", Col: "x"}},
		{{Row: "a", Col: "x", At: 3}, {Row: "a", Col: "y", At: 3}}, {{Row: "a", Col: "x"}, {Row: "b", Col: "x"}},
		{{Row: "a", Col: "bc"}, {Row: "ab", Col: "c"}}, {{Row: "a", Col: "x"}, {Row: "a", Col: "x\x00"}},
		{{Row: "a", Col: "x"}, {Row: "a\x00", Col: "x"}}, {{Row: "A", Col: "x"}, {Row: "a", Col: "x"}},
		{{Row: "a", Col: "x", At: 1 << 31}, {Row: "a", Col: "x"}}, {{Row: "\x7f", Col: "x"}, {Row: "\x80", Col: "x"}},
	} {
		expect(t, "in order", made(t, pair), pair)
		expect(t, "the other way round", made(t, []api.Cell{pair[1], pair[0]}), pair)
		expect(t, "and again", made(t, []api.Cell{pair[1], pair[0], pair[1]}), pair)
	}
}

// Nothing is changed, and the right cells that come then are put as ever.
func TestPutOfWrongOnes(t *testing.T) {
	a, b := api.Cell{Row: "a", Col: "x", At: 1, Value: "is"}, api.Cell{Row: "a", Col: "x", At: 0, Value: "was"}
	for _, c := range wrong() {
		m := mem.New()
		if m.Put(c) {
			t.Errorf("%s is put", say(c))
		}
		expect(t, "empty", m, nil)
		expectPut(t, m, b)
		expectPut(t, m, a)
		if m.Put(c) {
			t.Errorf("%s is put beside others", say(c))
		}
		expect(t, "with others "+say(c), m, []api.Cell{a, b})
		expectPut(t, m, api.Cell{Row: "b", Col: "x"})
		expect(t, "then", m, []api.Cell{a, b, {Row: "b", Col: "x"}})
	}
}

// A table that New didn't make is nothing else.
func TestNotOfNew(t *testing.T) {
	var m mem.Mem
	expect(t, "empty", &m, nil)
	expectRows(t, &m, nil, "a", "b")
	expectGet(t, &m, nil, "a", "x", 1)
	if m.Put(api.Cell{}) {
		t.Error("a wrong one is put")
	}
	expectPut(t, &m, api.Cell{Row: "a", Col: "x"})
	expect(t, "with a cell", &m, []api.Cell{{Row: "a", Col: "x"}})
}

// P9.2

func TestGetByTheLetter(t *testing.T) {
	l := []api.Cell{
		{Row: "a", Col: "x", At: 3, Value: "3"}, {Row: "b", Col: "x", At: mostAt, Value: "most"}, {Row: "a", Col: "y", At: 5, Value: "5"},
		{Row: "a", Col: "x", At: 9, Value: "9"}, {Row: "ab", Col: "a", At: 0, Value: "0"}, {Row: "a", Col: "x", At: 2, Gone: true},
	}
	m := made(t, l)
	for _, c := range []struct {
		row, col string
		at, want int
	}{
		{"a", "x", 10, 3}, {"a", "x", 9, 3}, {"a", "x", 8, 0}, {"a", "x", 4, 0}, {"a", "x", 3, 0}, {"a", "x", 2, 5}, {"a", "x", 1, -1},
		{"a", "x", 0, -1}, {"a", "x", -1, -1}, {"a", "x", math.MinInt, -1}, {"a", "x", math.MaxInt, 3}, {"a", "x", 1 << 32, 3},
		{"a", "y", 5, 2}, {"a", "y", 4, -1}, {"a", "y", mostAt, 2}, {"ab", "a", 0, 4}, {"ab", "a", -1, -1}, {"ab", "a", 1, 4},
		{"b", "x", mostAt, 1}, {"b", "x", mostAt - 1, -1}, {"b", "x", math.MaxInt, 1},
		{"a", "w", 9, -1}, {"a", "xa", 9, -1}, {"a", "z", 9, -1}, {"A", "x", 9, -1}, {"ab", "x", 9, -1}, {"b", "a", 9, -1}, {"c", "x", 9, -1},
		{"", "", 9, -1}, {"a", "", 9, -1}, {"", "x", 9, -1}, {of(65), "x", 9, -1}, {"b", of(1 << 16), 9, -1},
	} {
		got, ok := m.Get(c.row, c.col, c.at)
		if ok != (c.want >= 0) || !ok && got != (api.Cell{}) || ok && got != l[c.want] {
			t.Errorf("%q, %q, %d: %s, %v", c.row, c.col, c.at, say(got), ok)
		}
	}
}

func TestGet(t *testing.T) {
	l := many()
	m := made(t, shuffled(l, 1))
	for _, row := range bounds() {
		for _, col := range []string{"", "\x00", "a", "ab", "b", "bb", "\xff", of(64), of(65)} {
			for _, at := range times() {
				expectGet(t, m, l, row, col, at)
			}
		}
	}
}

func TestRowsByTheLetter(t *testing.T) {
	l := []api.Cell{
		{Row: "a", Col: "x", At: 9}, {Row: "a", Col: "x", At: 3, Gone: true}, {Row: "a", Col: "y", At: 5}, {Row: "aa", Col: "a"},
		{Row: "b", Col: "\x00", At: mostAt}, {Row: "b", Col: "x"}, {Row: "d", Col: "a", Value: "v"},
	}
	m := made(t, []api.Cell{l[6], l[0], l[4], l[1], l[5], l[2], l[3]})
	for _, c := range []struct {
		from, to   string
		first, end int
	}{
		{"", "", 0, 7}, {"a", "", 0, 7}, {"a\x00", "", 3, 7}, {"aa", "", 3, 7}, {"aaa", "", 4, 7}, {"b", "", 4, 7}, {"ba", "", 6, 7},
		{"c", "", 6, 7}, {"d", "", 6, 7}, {"e", "", 7, 7}, {"\xff", "", 7, 7}, {of(65), "", 7, 7},
		{"", "\x00", 0, 0}, {"", "a", 0, 0}, {"", "a\x00", 0, 3}, {"", "aa", 0, 3}, {"", "ab", 0, 4}, {"", "b", 0, 4}, {"", "c", 0, 6},
		{"", "d", 0, 6}, {"", "e", 0, 7}, {"", of(65), 0, 7}, {"a", "aa", 0, 3}, {"a", "b", 0, 4}, {"aa", "b", 3, 4}, {"aa", "d", 3, 6},
		{"b", "c", 4, 6}, {"c", "d", 6, 6}, {"c", "e", 6, 7}, {"e", "f", 7, 7}, {"0", "9", 0, 0},
		{"a", "a", 0, 0}, {"b", "b", 0, 0}, {"c", "c", 0, 0}, {"b", "a", 0, 0}, {"d", "a", 0, 0}, {"e", "a", 0, 0}, {"d", "\x00", 0, 0},
	} {
		if got := m.Rows(c.from, c.to); !slices.Equal(got, l[c.first:c.end]) {
			t.Errorf("Rows(%q, %q) = %s", c.from, c.to, sayAll(got))
		}
	}
}

func TestRows(t *testing.T) {
	l := many()
	m := made(t, shuffled(l, 2))
	for _, from := range bounds() {
		for _, to := range bounds() {
			expectRows(t, m, l, from, to)
		}
	}
}

// Rows of all cells that a few keys leave.
func TestReadsOfAllSets(t *testing.T) {
	var keys []api.Cell
	for _, row := range []string{"a", "ab", "b"} {
		for _, col := range []string{"x", "y"} {
			for _, at := range []int{4, 2} {
				keys = append(keys, api.Cell{Row: row, Col: col, At: at, Gone: at == 2})
			}
		}
	}
	for set := range 1 << len(keys) {
		var l []api.Cell
		for i, c := range keys {
			if set>>i&1 == 1 {
				l = append(l, c)
			}
		}
		m := made(t, shuffled(l, set))
		expect(t, "a set", m, l)
		for _, row := range []string{"", "a", "aa", "ab", "b", "c"} {
			for _, to := range []string{"", "a", "aa", "ab", "b", "c"} {
				expectRows(t, m, l, row, to)
			}
			for _, at := range []int{-1, 1, 2, 3, 4, 5} {
				expectGet(t, m, l, row, "x", at)
				expectGet(t, m, l, row, "y", at)
			}
		}
	}
}

// P9.3

// All lists of up to three of a few cells, of which several have one key.
func TestWhateverIsPut(t *testing.T) {
	kinds := few()[:24]
	var lists func(l []api.Cell)
	lists = func(l []api.Cell) {
		d := model{l}
		expect(t, sayAll(l), made(t, l), d.cells())
		if len(l) == 3 {
			return
		}
		for _, c := range kinds {
			lists(append(slices.Clone(l), c))
		}
	}
	lists(nil)
}

// A long row of puts, right and wrong ones, is looked at behind each of them.
func TestManyPuts(t *testing.T) {
	for seed := range 20 {
		m, d := mem.New(), model{}
		for i, c := range shuffled(slices.Concat(few(), few(), wrong(), many()[:40]), seed) {
			if got, want := m.Put(c), d.put(c); got != want {
				t.Errorf("Put(%s) = %v", say(c), got)
			}
			expect(t, fmt.Sprintf("row %d, put %d", seed, i), m, d.cells())
		}
	}
}

// Cells of other keys, in all orders of a few, and in some of many.
func TestOrderDoesNotMatter(t *testing.T) {
	l := []api.Cell{
		{Row: "a", Col: "x", At: 9, Value: "9"}, {Row: "a", Col: "x", At: 3, Gone: true}, {Row: "a", Col: "y", At: 5},
		{Row: "aa", Col: "a", Value: "v"}, {Row: "b", Col: "x", At: 7}, {Row: "b", Col: "y", Gone: true},
	}
	var orders func(n int, o []api.Cell)
	orders = func(n int, o []api.Cell) {
		if n == len(l) {
			expect(t, sayAll(o), made(t, o), l)
			return
		}
		for i := range len(o) + 1 {
			orders(n+1, slices.Insert(slices.Clone(o), i, l[n]))
		}
	}
	orders(0, nil)
	for seed := range 20 {
		expect(t, fmt.Sprint("order ", seed), made(t, shuffled(many(), seed)), many())
	}
	back := many()
	slices.Reverse(back)
	expect(t, "from the end", made(t, back), many())
	expect(t, "from the beginning", made(t, many()), many())
}

// Of each key several are put, one behind the other; how the keys stand between
// each other doesn't matter.
func TestOrderOfOtherKeysDoesNotMatter(t *testing.T) {
	var want []api.Cell
	for i, c := range few() {
		if i%4 == 3 {
			want = append(want, c)
		}
	}
	sort.Slice(want, func(i, j int) bool { return ahead(want[i], want[j]) })
	for seed := range 200 {
		left := map[api.Cell][]api.Cell{}
		for _, c := range few() {
			key := api.Cell{Row: c.Row, Col: c.Col, At: c.At}
			left[key] = append(left[key], c)
		}
		var l []api.Cell
		for _, c := range shuffled(few(), seed) { // only its key counts: which turn it is
			key := api.Cell{Row: c.Row, Col: c.Col, At: c.At}
			l = append(l, left[key][0])
			left[key] = left[key][1:]
		}
		expect(t, fmt.Sprint("order ", seed), made(t, l), want)
	}
}

// Thousands of cells, put in no order, and each once more.
func TestThousands(t *testing.T) {
	var l, again []api.Cell
	for i := range 3000 {
		c := api.Cell{Row: fmt.Sprintf("r%03d", i/30), Col: fmt.Sprint("c", i/5%6), At: 4 - i%5, Value: fmt.Sprint(i)}
		l = append(l, c)
		c.Value, c.Gone = "", true
		again = append(again, c)
	}
	m := made(t, shuffled(l, 1))
	expect(t, "once", m, l)
	expectRows(t, m, l, "r010", "r020")
	for _, c := range shuffled(again, 2) {
		expectPut(t, m, c)
	}
	expect(t, "twice", m, again)
}

// putsOf reads cells, right and wrong ones, of bytes.
func putsOf(b []byte) []api.Cell {
	var l []api.Cell
	for len(b) >= 3 {
		c := api.Cell{Row: of(int(b[0] & 3)), Col: string('x' + rune(b[0]>>2&3)), At: int(b[1]&7) - 1, Gone: b[1]>>3&7 == 0}
		if b[1]>>6 != 0 {
			c.Value = of(int(b[2]) * 2)
		}
		if b[0]>>4&7 == 0 {
			c.Row = string(b[:1])
		}
		l = append(l, c)
		b = b[3:]
	}
	return l
}

func checkPuts(t *testing.T, b []byte) {
	m, d := mem.New(), model{}
	for _, c := range putsOf(b[:min(len(b), 600)]) {
		if got, want := m.Put(c), d.put(c); got != want {
			t.Errorf("Put(%s) = %v", say(c), got)
		}
	}
	l := d.cells()
	expect(t, fmt.Sprintf("%x", b), m, l)
	for _, row := range []string{"", "\x04", "n", "nn", "nnn", "o"} {
		for _, to := range []string{"", "\x04", "n", "nn", "nnn", "o"} {
			expectRows(t, m, l, row, to)
		}
		for at := range 8 {
			expectGet(t, m, l, row, "x", at-1)
		}
	}
}

func TestPutsOfBytes(t *testing.T) {
	r := rand.New(rand.NewSource(9))
	for range 300 {
		b := make([]byte, r.Intn(200))
		r.Read(b)
		checkPuts(t, b)
	}
}

func FuzzPuts(f *testing.F) {
	f.Add([]byte{1, 2, 3, 1, 2, 4, 9, 9, 9})
	f.Add([]byte(strings.Repeat("abcdefg", 30)))
	f.Fuzz(checkPuts)
}

// P9.4

// spoil writes over all that the list has, and over the memory behind it.
func spoil(l []api.Cell) {
	l = l[:cap(l)]
	for i := range l {
		l[i] = api.Cell{Row: "other", Col: "other", At: 99, Value: "other"}
	}
}

// Tables with and without spare memory behind their cells: they grow one by one.
func TestWhatIsToldIsNewMemory(t *testing.T) {
	l := many()[:70]
	m := mem.New()
	for i, c := range l {
		expectPut(t, m, c)
		for _, told := range [][]api.Cell{m.Cells(), m.Rows("", ""), m.Rows(l[i/2].Row, ""), m.Rows("", l[i/2].Row), m.Rows(c.Row, c.Row)} {
			spoil(told)
			_ = append(told, api.Cell{Row: "more"})
			expect(t, "behind a change of an answer", m, l[:i+1])
		}
	}
}

// Two answers share nothing either.
func TestAnswersAreOfTheirOwn(t *testing.T) {
	l := many()
	m := made(t, l)
	calls := []func() []api.Cell{m.Cells, func() []api.Cell { return m.Rows("", "") }, func() []api.Cell { return m.Rows("a", "b") }}
	for i, call := range calls {
		for j, other := range calls {
			a := call()
			was := slices.Clone(a)
			spoil(other())
			if !slices.Equal(a, was) {
				t.Errorf("answer %d changed with answer %d", i, j)
			}
		}
	}
}

// What was told stays, whatever is put then.
func TestAnswersStay(t *testing.T) {
	l := many()
	m := made(t, l[10:])
	all, some := m.Cells(), m.Rows("a", "b")
	c, ok := m.Get("a", "a", mostAt)
	wantAll, wantSome, wantCell := slices.Clone(all), slices.Clone(some), c
	for _, c := range l {
		c.Value, c.Gone = "other", false
		expectPut(t, m, c)
	}
	if !slices.Equal(all, wantAll) || !slices.Equal(some, wantSome) || c != wantCell || !ok || len(some) == 0 {
		t.Errorf("what was told is now %s, %s, %s, %v", sayAll(all), sayAll(some), say(c), ok)
	}
}

// A cell that was put or got is no longer the caller's to change.
func TestWhatIsHandedInStays(t *testing.T) {
	l := many()
	puts := slices.Clone(l)
	m := mem.New()
	for i := range puts {
		expectPut(t, m, puts[i])
	}
	if !slices.Equal(puts, l) {
		t.Error("what was put has changed")
	}
	spoil(puts)
	expect(t, "behind a change of what was put", m, l)
	for _, c := range l {
		got, _ := m.Get(c.Row, c.Col, c.At)
		got.Value, got.At = "other", 99
	}
	expect(t, "behind a change of what was got", m, l)
}

// To ask changes nothing.
func TestAskingChangesNothing(t *testing.T) {
	l := many()
	m := made(t, shuffled(l, 5))
	for range 2 {
		for _, row := range bounds() {
			m.Get(row, "a", 7)
			m.Rows(row, "b")
			m.Rows("b", row)
		}
		m.Cells()
		m.Len()
		m.Size()
		expect(t, "asked", m, l)
	}
}

// P1: every call ends, whatever it is given, with and without cells.
func TestNoCallPanics(t *testing.T) {
	for _, l := range [][]api.Cell{nil, few(), many()} {
		m := made(t, l)
		for _, c := range slices.Concat(wrong(), few(), many()) {
			m.Get(c.Row, c.Col, c.At)
			m.Rows(c.Row, c.Col)
			m.Rows(c.Col, c.Row)
			m.Put(c)
		}
	}
}
