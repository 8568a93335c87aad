package merge_test

import (
	"fmt"
	"math"
	"math/rand"
	"slices"
	"sort"
	"strconv"
	"strings"
	"testing"

	"shardlog/api"
	"shardlog/merge"
)

const mostAt = 1<<32 - 1

// The words of the chapter once more: each cell is held against all others, and no
// list is trusted to be in order.

func sameKey(a, b api.Cell) bool { return together(a, b) && a.At == b.At }

func together(a, b api.Cell) bool { return a.Row == b.Row && a.Col == b.Col }

func ahead(a, b api.Cell) bool {
	if a.Row != b.Row {
		return a.Row < b.Row
	}
	if a.Col != b.Col {
		return a.Col < b.Col
	}
	return a.At > b.At
}

// inOrder tells whether each cell is right and ahead of all behind it.
func inOrder(l []api.Cell) bool {
	for i, c := range l {
		if !isRight(c) || i > 0 && !ahead(l[i-1], c) {
			return false
		}
	}
	return true
}

func isRight(c api.Cell) bool {
	for _, s := range []string{c.Row, c.Col} {
		if len(s) < 1 || len(s) > 64 {
			return false
		}
	}
	return c.At >= 0 && c.At <= mostAt && len(c.Value) <= 256 && (!c.Gone || c.Value == "")
}

// merged has each cell whose key no earlier list has.
func merged(lists [][]api.Cell) []api.Cell {
	var all []api.Cell
	for i, l := range lists {
		for _, c := range l {
			if !slices.ContainsFunc(lists[:i], func(o []api.Cell) bool { return hasKey(o, c) }) {
				all = append(all, c)
			}
		}
	}
	sort.Slice(all, func(i, j int) bool { return ahead(all[i], all[j]) })
	return all
}

func hasKey(l []api.Cell, c api.Cell) bool {
	return slices.ContainsFunc(l, func(d api.Cell) bool { return sameKey(c, d) })
}

// isNewest tells whether there is no later cell of its row and column that isn't
// above the time.
func isNewest(l []api.Cell, c api.Cell, at int) bool {
	return !slices.ContainsFunc(l, func(d api.Cell) bool { return together(c, d) && d.At <= at && d.At > c.At })
}

func cleaned(l []api.Cell, upto int) []api.Cell {
	var some []api.Cell
	for _, c := range l {
		if c.At > upto || isNewest(l, c, upto) && !c.Gone {
			some = append(some, c)
		}
	}
	return some
}

func visible(l []api.Cell, at int) []api.Cell {
	var some []api.Cell
	for _, c := range l {
		if c.At <= at && isNewest(l, c, at) && !c.Gone {
			some = append(some, c)
		}
	}
	return some
}

// Messages.

func say(c api.Cell) string {
	mark := "="
	if c.Gone {
		mark = "!"
	}
	return fmt.Sprintf("%.70q %.70q %d%s%.20q", c.Row, c.Col, c.At, mark, c.Value)
}

// sayAll is some of them: all would fill the screen.
func sayAll(l []api.Cell) string {
	var b strings.Builder
	fmt.Fprintf(&b, "%d cells", len(l))
	for _, c := range l[:min(len(l), 12)] {
		b.WriteString(" (" + say(c) + ")")
	}
	return b.String()
}

func sayLists(lists [][]api.Cell) string {
	var b strings.Builder
	fmt.Fprintf(&b, "%d lists", len(lists))
	for _, l := range lists[:min(len(lists), 6)] {
		b.WriteString("\n\t" + sayAll(l))
	}
	return b.String()
}

// Holding answers against what the words ask.

func expect(t *testing.T, what string, got, want []api.Cell) {
	t.Helper()
	if !slices.Equal(got, want) {
		t.Errorf("%s: %s\n\twant %s", what, sayAll(got), sayAll(want))
	}
}

func expectAll(t *testing.T, lists [][]api.Cell) {
	t.Helper()
	if got, want := merge.All(lists), merged(lists); !slices.Equal(got, want) || !inOrder(got) {
		t.Errorf("of %s\n\tAll = %s\n\twant %s", sayLists(lists), sayAll(got), sayAll(want))
	}
}

func expectClean(t *testing.T, l []api.Cell, upto int) {
	t.Helper()
	if got, want := merge.Clean(l, upto), cleaned(l, upto); !slices.Equal(got, want) {
		t.Errorf("of %s\n\tClean up to %d = %s\n\twant %s", sayAll(l), upto, sayAll(got), sayAll(want))
	}
}

func expectVisible(t *testing.T, l []api.Cell, at int) {
	t.Helper()
	if got, want := merge.Visible(l, at), visible(l, at); !slices.Equal(got, want) {
		t.Errorf("of %s\n\tVisible at %d = %s\n\twant %s", sayAll(l), at, sayAll(got), sayAll(want))
	}
}

// What is handed in.

// written are cells spelt as "ax9=v" (row a, column x, at 9, value v) or, of one that
// is gone, "ax9!".
func written(s string) []api.Cell {
	var l []api.Cell
	for _, w := range strings.Fields(s) {
		end := strings.IndexAny(w, "=!")
		at, e := strconv.Atoi(w[2:end])
		if e != nil {
			panic(w)
		}
		l = append(l, api.Cell{Row: w[:1], Col: w[1:2], At: at, Value: w[end+1:], Gone: w[end] == '!'})
	}
	return l
}

func of(n int) string { return strings.Repeat("n", n) }

// rowNames stand close to each other, or are at the edges.
func rowNames() []string {
	return []string{
		"a", "aa", "ab", "b", "B", "a\x00", "a\x00a", "a\xff", "\x00", "\x00\x00", "\x7f", "\x80", "\xff",
		"gr\u00fc\u00df", "\uffff", "\U00010000", of(63), of(64), strings.Repeat("\x00", 64), strings.Repeat("\xff", 64),
	}
}

func times() []int {
	return []int{math.MinInt, -1 << 32, -1, 0, 1, 2, 3, 4, 6, 7, 8, 1<<31 - 1, 1 << 31, mostAt - 1, mostAt, mostAt + 1, 1 << 33, math.MaxInt}
}

// many are right cells of all kinds, in order.
func many() []api.Cell {
	var l []api.Cell
	for i, row := range rowNames() {
		for j, col := range []string{"\x00", "a", "ab", "b", "\xff", of(64)}[i%3:] {
			for k, at := range []int{mostAt, mostAt - 1, 7, 3, 0} {
				c := api.Cell{Row: row, Col: col, At: at}
				if (i+j+k)%3 == 0 {
					c.Gone = true
				} else {
					c.Value = strings.Repeat("v", (i*j*k*37)%257)
				}
				l = append(l, c)
			}
		}
	}
	sort.Slice(l, func(i, j int) bool { return ahead(l[i], l[j]) })
	return l
}

// some is a part of the cells, each with a value of this list, always the same part.
func some(l []api.Cell, r *rand.Rand, list int) []api.Cell {
	var part []api.Cell
	for _, c := range l {
		switch r.Intn(5) {
		case 0:
			part = append(part, api.Cell{Row: c.Row, Col: c.Col, At: c.At, Gone: true})
		case 1, 2:
			part = append(part, api.Cell{Row: c.Row, Col: c.Col, At: c.At, Value: strconv.Itoa(list)})
		}
	}
	return part
}

// parts are n lists of the cells' keys, of which several lists have some.
func parts(l []api.Cell, n, seed int) [][]api.Cell {
	r := rand.New(rand.NewSource(int64(seed)))
	var lists [][]api.Cell
	for i := range n {
		lists = append(lists, some(l, r, i))
	}
	return lists
}

// allOf are all lists of the keys, each of which isn't there, or is with the value, or
// is gone.
func allOf(keys []api.Cell, value string) [][]api.Cell {
	lists := [][]api.Cell{nil}
	for _, key := range keys {
		var more [][]api.Cell
		for _, l := range lists {
			is, gone := key, key
			is.Value, gone.Gone = value, true
			more = append(more, l, append(slices.Clone(l), is), append(slices.Clone(l), gone))
		}
		lists = more
	}
	return lists
}

// P13.1: All

func TestAllByTheLetter(t *testing.T) {
	for i, c := range []struct {
		lists []string
		want  string
	}{
		{nil, ""},
		{[]string{""}, ""},
		{[]string{"", "", ""}, ""},
		{[]string{"ax9=v"}, "ax9=v"},
		{[]string{"", "ax9=v", ""}, "ax9=v"},
		{[]string{"ax9=1", "ax9=2"}, "ax9=1"}, // of one key in both lists: the first list's
		{[]string{"ax9=2", "ax9=1"}, "ax9=2"},
		{[]string{"ax9=1", "ax9!"}, "ax9=1"},
		{[]string{"ax9!", "ax9=2"}, "ax9!"},
		{[]string{"ax9=", "ax9=2"}, "ax9="},
		{[]string{"", "ax9=2", "ax9=3"}, "ax9=2"},
		{[]string{"ax3=1", "ax9=2"}, "ax9=2 ax3=1"}, // two keys: the later At stands first, and both are there
		{[]string{"ax9!", "ax3=2"}, "ax9! ax3=2"},
		{[]string{"bx1=1", "ax1=2"}, "ax1=2 bx1=1"},
		{[]string{"ay1=1", "ax1=2"}, "ax1=2 ay1=1"},
		{[]string{"ay9=1", "ax1=2"}, "ax1=2 ay9=1"},
		{[]string{"bx9=1", "ay1=2"}, "ay1=2 bx9=1"},
		{[]string{"ax9=1 bx9=1 cx9=1", "ax9=2 cx9=2 dx9=2"}, "ax9=1 bx9=1 cx9=1 dx9=2"},
		{[]string{"cx9=1", "ax9=2 cx9=2 dx9=2", "bx9=3 dx9=3 ex9=3"}, "ax9=2 bx9=3 cx9=1 dx9=2 ex9=3"},
		{[]string{"dx9=1 ex9=1", "ax9=2 bx9=2", "cx9=3"}, "ax9=2 bx9=2 cx9=3 dx9=1 ex9=1"}, // one list behind the other
		{[]string{"ax5=1 ax1=1", "ax4=2 ax1=2", "ax5=3 ax4=3 ax3=3", "ax2! ax1!"}, "ax5=1 ax4=2 ax3=3 ax2! ax1=1"},
		{[]string{"zz0=1", "zz4294967295=2", "AA0=3"}, "AA0=3 zz4294967295=2 zz0=1"},
	} {
		var lists [][]api.Cell
		for _, s := range c.lists {
			lists = append(lists, written(s))
		}
		expect(t, fmt.Sprintf("case %d", i), merge.All(lists), written(c.want))
	}
}

// Nil and empty lists are one.
func TestAllOfNothing(t *testing.T) {
	c := api.Cell{Row: "a", Col: "x", At: 1, Value: "v"}
	for _, lists := range [][][]api.Cell{nil, {}, {nil}, {{}}, {nil, {}}, make([][]api.Cell, 1000)} {
		expect(t, "nothing", merge.All(lists), nil)
		expect(t, "one behind nothing", merge.All(append(slices.Clone(lists), []api.Cell{c})), []api.Cell{c})
		expect(t, "one ahead of nothing", merge.All(append([][]api.Cell{{c}}, lists...)), []api.Cell{c})
	}
}

// All lists of four keys, with each other.
func TestAllOfTwo(t *testing.T) {
	keys := written("ax2= ax1= ay1= bx2=")
	for _, a := range allOf(keys, "1") {
		for _, b := range allOf(keys, "2") {
			expectAll(t, [][]api.Cell{a, b})
		}
	}
}

func TestAllOfThree(t *testing.T) {
	keys := written("ax2= ax1= bx1=")
	for _, a := range allOf(keys, "1") {
		for _, b := range allOf(keys, "2") {
			for _, c := range allOf(keys, "3") {
				expectAll(t, [][]api.Cell{a, b, c})
			}
		}
	}
}

// Of many lists with one key, and with keys of their own beside it, whichever way they
// stand in the heap: the first one that has the key.
func TestAllOfOneKey(t *testing.T) {
	for n := 1; n <= 40; n++ {
		for first := range n {
			lists := make([][]api.Cell, n)
			for i := range lists {
				own := api.Cell{Row: "a", Col: "x", At: 1000 + (i*17)%n, Value: "own"}
				lists[i] = []api.Cell{own}
				if i >= first {
					lists[i] = append(lists[i], api.Cell{Row: "a", Col: "x", At: 5, Value: strconv.Itoa(i)})
				}
			}
			expectAll(t, lists)
		}
	}
}

// One key in each list, at the beginning of all.
func TestAllOfLikeLists(t *testing.T) {
	for n := 1; n <= 100; n++ {
		lists := make([][]api.Cell, n)
		for i := range lists {
			lists[i] = []api.Cell{{Row: "a", Col: "x", At: 1, Value: strconv.Itoa(i)}, {Row: "b", Col: "x", At: 1, Value: strconv.Itoa(i)}}
		}
		expect(t, strconv.Itoa(n), merge.All(lists), written("ax1=0 bx1=0"))
		slices.Reverse(lists)
		last := strconv.Itoa(n - 1)
		expect(t, strconv.Itoa(n), merge.All(lists), written("ax1="+last+" bx1="+last))
	}
}

// A list that stands there twice, or is the beginning or the end of another one, in
// the same memory.
func TestAllOfSharedMemory(t *testing.T) {
	l := many()
	expect(t, "one", merge.All([][]api.Cell{l}), l)
	expect(t, "twice", merge.All([][]api.Cell{l, l, l}), l)
	for _, n := range []int{0, 1, 2, len(l) / 2, len(l) - 1, len(l)} {
		expect(t, "beginnings", merge.All([][]api.Cell{l[:n], l}), l)
		expect(t, "ends", merge.All([][]api.Cell{l[n:], l}), l)
		expect(t, "both", merge.All([][]api.Cell{l[n:], l[:n]}), l)
	}
}

// Names and times of all edges, each cell in a list of its own, or dealt out.
func TestAllOfDealtCells(t *testing.T) {
	l := many()
	for _, n := range []int{1, 2, 3, 7, 64, len(l)} {
		for _, seed := range []int64{1, 2, 3} {
			r := rand.New(rand.NewSource(seed))
			lists := make([][]api.Cell, n)
			for _, c := range l {
				i := r.Intn(n)
				lists[i] = append(lists[i], c)
			}
			expect(t, fmt.Sprintf("%d lists", n), merge.All(lists), l)
		}
	}
	var alone [][]api.Cell
	for i := range l {
		alone = append(alone, l[i:i+1])
	}
	expect(t, "each alone", merge.All(alone), l)
	slices.Reverse(alone)
	expect(t, "each alone, from the end", merge.All(alone), l)
}

// Keys that differ by one part alone, or whose parts are the same bytes one behind
// the other, are two.
func TestAllOfKeysBesideEachOther(t *testing.T) {
	for _, pair := range [][]api.Cell{
		{{Row: "a", Col: "x", At: 3}, {Row: "a", Col: "x", At: 2}}, {{Row: "a", Col: "x", At: mostAt}, {Row: "a", Col: "x"}},
		{{Row: "a", Col: "x", At: 3}, {Row: "a", Col: "y", At: 3}}, {{Row: "a", Col: "x"}, {Row: "b", Col: "x"}},
		{{Row: "a", Col: "bc"}, {Row: "ab", Col: "c"}}, {{Row: "a", Col: "x"}, {Row: "a", Col: "x\x00"}},
		{{Row: "a", Col: "x"}, {Row: "a\x00", Col: "x"}}, {{Row: "A", Col: "x"}, {Row: "a", Col: "x"}},
		{{Row: "a", Col: "x", At: 1 << 31}, {Row: "a", Col: "x"}}, {{Row: "\x7f", Col: "x"}, {Row: "\x80", Col: "x"}},
	} {
		a, b := pair[:1], pair[1:]
		for _, lists := range [][][]api.Cell{{a, b}, {b, a}, {pair}, {pair, a}, {pair, b}, {a, pair}, {b, pair}} {
			expect(t, "a pair", merge.All(lists), pair)
		}
	}
}

func TestAllOfMadeUpLists(t *testing.T) {
	l := many()
	for n := range 9 {
		for seed := range 8 {
			expectAll(t, parts(l[seed*11:seed*11+60], n, seed))
		}
	}
	expectAll(t, parts(l, 5, 1))
	expectAll(t, parts(l[:30], 100, 1))
}

// So many that only a merge of all at once, or in few steps, ends soon. A stable sort
// has the first list's cell ahead of the others with its key.
func TestAllOfVeryMany(t *testing.T) {
	lists := make([][]api.Cell, 3000)
	var all []api.Cell
	for i := range lists {
		for j := range 60 {
			lists[i] = append(lists[i], api.Cell{Row: "r", Col: "c", At: (60-j)*2000 + (i*i+j*j)%1777, Value: strconv.Itoa(i)})
		}
		if !inOrder(lists[i]) {
			t.Fatalf("list %d isn't in order", i)
		}
		all = append(all, lists[i]...)
	}
	sort.SliceStable(all, func(i, j int) bool { return ahead(all[i], all[j]) })
	expect(t, "very many", merge.All(lists), slices.CompactFunc(all, sameKey))
}

// P13.1: Clean

func TestCleanByTheLetter(t *testing.T) {
	for _, c := range []struct {
		l    string
		upto int
		want string
	}{
		{"", 5, ""},
		{"ax5=v", 4, "ax5=v"},
		{"ax5=v", 5, "ax5=v"}, // the newest stays
		{"ax5=v", 6, "ax5=v"},
		{"ax5=", 6, "ax5="}, // one without a value isn't gone
		{"ax5!", 4, "ax5!"}, // above the time all stay, what is gone too
		{"ax5!", 5, ""},
		{"ax5!", 6, ""},
		{"ax5=5 ax3=3", 2, "ax5=5 ax3=3"},
		{"ax5=5 ax3=3", 3, "ax5=5 ax3=3"},
		{"ax5=5 ax3=3", 4, "ax5=5 ax3=3"},
		{"ax5=5 ax3=3", 5, "ax5=5"},
		{"ax5=5 ax3=3", 9, "ax5=5"},
		{"ax5! ax3=3", 2, "ax5! ax3=3"},
		{"ax5! ax3=3", 4, "ax5! ax3=3"},
		{"ax5! ax3=3", 5, ""}, // the newest is gone, and what it hid
		{"ax5=5 ax3!", 2, "ax5=5 ax3!"},
		{"ax5=5 ax3!", 3, "ax5=5"},
		{"ax5=5 ax3!", 5, "ax5=5"},
		{"ax5! ax4! ax3=3 ax2=2", 3, "ax5! ax4! ax3=3"},
		{"ax5! ax4! ax3=3 ax2=2", 4, "ax5!"},
		{"ax5! ax4! ax3=3 ax2=2", 5, ""},
		{"ax9=9 ax8=8 ax7=7 ax6! ax5=5", 7, "ax9=9 ax8=8 ax7=7"},
		{"ax9=9 ax8=8 ax7=7 ax6! ax5=5", 6, "ax9=9 ax8=8 ax7=7"},
		{"ax9=9 ax8=8 ax7=7 ax6! ax5=5", 5, "ax9=9 ax8=8 ax7=7 ax6! ax5=5"},
		{"ax5=5 ax3=3 ay4=4 ay3=3 bx3! bx2=2", 4, "ax5=5 ax3=3 ay4=4"}, // each row and column by itself
		{"ax5=5 ay4=4 bx3=3 by2=2", 9, "ax5=5 ay4=4 bx3=3 by2=2"},
		{"ax5! ay4=4 bx3! by2=2", 9, "ay4=4 by2=2"},
		{"ax5! bx4=4", 9, "bx4=4"},
		{"ax4294967295! ax0=0", 4294967294, "ax4294967295! ax0=0"},
		{"ax4294967295! ax0=0", 4294967295, ""},
		{"ax0=0 bx0!", 0, "ax0=0"},
		{"ax0=0 bx0!", -1, "ax0=0 bx0!"},
	} {
		expect(t, fmt.Sprintf("%s up to %d", c.l, c.upto), merge.Clean(written(c.l), c.upto), written(c.want))
	}
}

// All lists of these keys, at all times.
func TestCleanOfAllLists(t *testing.T) {
	for _, keys := range []string{"ax4= ax3= ax2= ax1= ax0=", "ax3= ax1= ay3= ay1= bx2= bx1="} {
		for _, l := range allOf(written(keys), "v") {
			for upto := -1; upto <= 5; upto++ {
				expectClean(t, l, upto)
			}
		}
	}
}

func TestCleanOfMany(t *testing.T) {
	l := many()
	for _, upto := range times() {
		expectClean(t, l, upto)
		for _, part := range parts(l, 6, 4) {
			expectClean(t, part, upto)
		}
		expectClean(t, nil, upto)
		expectClean(t, []api.Cell{}, upto)
	}
}

// P13.1: Visible

func TestVisibleByTheLetter(t *testing.T) {
	for _, c := range []struct {
		l    string
		at   int
		want string
	}{
		{"", 5, ""},
		{"ax5=v", 4, ""},
		{"ax5=v", 5, "ax5=v"},
		{"ax5=v", 6, "ax5=v"},
		{"ax5=", 6, "ax5="},
		{"ax5!", 4, ""},
		{"ax5!", 5, ""},
		{"ax5=5 ax3=3", 2, ""},
		{"ax5=5 ax3=3", 3, "ax3=3"},
		{"ax5=5 ax3=3", 4, "ax3=3"},
		{"ax5=5 ax3=3", 5, "ax5=5"},
		{"ax5=5 ax3=3", 9, "ax5=5"},
		{"ax5! ax3=3", 4, "ax3=3"},
		{"ax5! ax3=3", 5, ""},
		{"ax5! ax3=3", 9, ""},
		{"ax5=5 ax3!", 3, ""},
		{"ax5=5 ax3!", 5, "ax5=5"},
		{"ax5=5 ax3! ax2=2", 3, ""},
		{"ax5=5 ax3! ax2=2", 2, "ax2=2"},
		{"ax5=5 ax3=3 ay4=4 ay3=3 bx3! bx2=2", 4, "ax3=3 ay4=4"},
		{"ax5=5 ax3=3 ay4=4 ay3=3 bx3! bx2=2", 2, "bx2=2"},
		{"ax5=5 ay4=4 bx3=3 by2=2", 9, "ax5=5 ay4=4 bx3=3 by2=2"},
		{"ax5=5 ay4=4 bx3=3 by2=2", 3, "bx3=3 by2=2"},
		{"ax5! bx4=4", 9, "bx4=4"},
		{"ax4294967295=m ax0=0", 4294967294, "ax0=0"},
		{"ax4294967295=m ax0=0", 4294967295, "ax4294967295=m"},
		{"ax0=0 bx0!", 0, "ax0=0"},
		{"ax0=0 bx0!", -1, ""},
	} {
		expect(t, fmt.Sprintf("%s at %d", c.l, c.at), merge.Visible(written(c.l), c.at), written(c.want))
	}
}

func TestVisibleOfAllLists(t *testing.T) {
	for _, keys := range []string{"ax4= ax3= ax2= ax1= ax0=", "ax3= ax1= ay3= ay1= bx2= bx1="} {
		for _, l := range allOf(written(keys), "v") {
			for at := -1; at <= 5; at++ {
				expectVisible(t, l, at)
			}
		}
	}
}

func TestVisibleOfMany(t *testing.T) {
	l := many()
	for _, at := range times() {
		expectVisible(t, l, at)
		for _, part := range parts(l, 6, 4) {
			expectVisible(t, part, at)
		}
		expectVisible(t, nil, at)
		expectVisible(t, []api.Cell{}, at)
	}
}

// Cells of two columns whose row and column are the same bytes one behind the other,
// or differ by one byte, don't hide each other.
func TestCellsOfOthersHideNothing(t *testing.T) {
	for _, pair := range [][]api.Cell{
		{{Row: "a", Col: "bc", At: 5}, {Row: "ab", Col: "c", At: 4}}, {{Row: "a", Col: "x", At: 5}, {Row: "a", Col: "x\x00", At: 4}},
		{{Row: "a", Col: "x", At: 5}, {Row: "a\x00", Col: "x", At: 4}}, {{Row: "A", Col: "x", At: 5}, {Row: "a", Col: "x", At: 4}},
		{{Row: "a", Col: "x", At: 5}, {Row: "a", Col: "y", At: 4}}, {{Row: "a", Col: "x", At: 5}, {Row: "b", Col: "x", At: 4}},
	} {
		for _, gone := range []bool{false, true} {
			l := slices.Clone(pair)
			l[0].Gone = gone
			want := l
			if gone {
				want = l[1:]
			}
			expect(t, "cleaned", merge.Clean(l, 5), want)
			expect(t, "visible", merge.Visible(l, 5), want)
			expect(t, "visible at 4", merge.Visible(l, 4), l[1:])
		}
	}
}

// P13.2

// checkCleaning asks what follows of one list: at each time from upto on the same is
// visible, and to clean it again changes nothing.
func checkCleaning(t *testing.T, l []api.Cell, uptos []int) {
	t.Helper()
	for _, upto := range uptos {
		once := merge.Clean(l, upto)
		if !inOrder(once) {
			t.Errorf("cleaned up to %d: %s isn't in order", upto, sayAll(once))
		}
		expect(t, fmt.Sprintf("%s twice up to %d", sayAll(l), upto), merge.Clean(once, upto), once)
		for _, at := range uptos {
			if at >= upto {
				expect(t, fmt.Sprintf("%s at %d, up to %d", sayAll(l), at, upto), merge.Visible(once, at), merge.Visible(l, at))
				expect(t, fmt.Sprintf("%s up to %d and to %d", sayAll(l), upto, at), merge.Clean(once, at), merge.Clean(l, at))
			}
		}
	}
}

func TestWhatFollowsOfCleaning(t *testing.T) {
	for _, keys := range []string{"ax4= ax3= ax2= ax1= ax0=", "ax3= ax1= ay3= ay1= bx2="} {
		for _, l := range allOf(written(keys), "v") {
			checkCleaning(t, l, []int{-1, 0, 1, 2, 3, 4, 5})
		}
	}
	checkCleaning(t, many(), times())
	for _, part := range parts(many(), 8, 2) {
		checkCleaning(t, part, times())
	}
}

// checkSteps merges the lists in one step, and in two: some of those that stand side by
// side first.
func checkSteps(t *testing.T, lists [][]api.Cell) {
	t.Helper()
	once := merge.All(lists)
	for from := range len(lists) + 1 {
		for to := from; to <= len(lists); to++ {
			middle := merge.All(lists[from:to])
			if !inOrder(middle) {
				t.Errorf("%s isn't in order", sayAll(middle))
			}
			two := slices.Concat(lists[:from], [][]api.Cell{middle}, lists[to:])
			expect(t, fmt.Sprintf("lists %d to %d of %s first", from, to, sayLists(lists)), merge.All(two), once)
		}
	}
}

func TestWhatFollowsOfMerging(t *testing.T) {
	keys := written("ax2= ax1= bx1=")
	for _, a := range allOf(keys, "1") {
		for _, b := range allOf(keys[:2], "2") {
			for _, c := range allOf(keys[1:], "3") {
				checkSteps(t, [][]api.Cell{a, b, c})
			}
		}
	}
	for n := range 8 {
		checkSteps(t, parts(many(), n, n))
	}
}

// checkLists makes lists of the bytes, four for each cell, and holds all that is told
// of them against the words.
func checkLists(t *testing.T, b []byte) {
	var lists [][]api.Cell
	for ; len(b) >= 4; b = b[4:] {
		i := int(b[0] % 6)
		for len(lists) <= i {
			lists = append(lists, nil)
		}
		c := api.Cell{Row: of(1 + int(b[1]%3)), Col: of(1 + int(b[2]%2)), At: int(b[3] % 6), Gone: b[0]%7 == 0}
		if !c.Gone {
			c.Value = string(b[:1])
		}
		if !hasKey(lists[i], c) {
			lists[i] = append(lists[i], c)
		}
	}
	for _, l := range lists {
		sort.Slice(l, func(i, j int) bool { return ahead(l[i], l[j]) })
	}
	expectAll(t, lists)
	checkSteps(t, lists)
	l := merge.All(lists)
	for at := range 8 {
		expectClean(t, l, at-1)
		expectVisible(t, l, at-1)
	}
	checkCleaning(t, l, []int{-1, 0, 1, 2, 3, 4, 5, 6})
}

func TestListsOfBytes(t *testing.T) {
	r := rand.New(rand.NewSource(13))
	for range 200 {
		b := make([]byte, r.Intn(300))
		r.Read(b)
		checkLists(t, b)
	}
}

func FuzzLists(f *testing.F) {
	f.Add([]byte{0, 1, 2, 3, 1, 1, 2, 3, 7, 9, 9, 9})
	f.Add([]byte(strings.Repeat("abcdefg", 30)))
	f.Fuzz(checkLists)
}

// P13.3

// spoil writes over all that the list has, and over the memory behind it.
func spoil(l []api.Cell) {
	l = l[:cap(l)]
	for i := range l {
		l[i] = api.Cell{Row: "other", Col: "other", At: 99, Value: "other"}
	}
}

// roomy is the list, in memory that goes on behind it.
func roomy(l []api.Cell) []api.Cell {
	r := slices.Grow(slices.Clone(l), 20)
	for i := range r[len(r):cap(r)] {
		r[len(r):cap(r)][i] = api.Cell{Row: "behind", Col: "x", At: i}
	}
	return r
}

// handed are lists that are merged with all, some and none of their cells staying.
func handed() [][][]api.Cell {
	l := many()
	return [][][]api.Cell{
		{l}, {l, nil}, {nil, l}, {l, l[:9]}, {l[:9], l[9:]}, {l[9:], l[:9]}, {{}, l[3:4], {}}, parts(l, 3, 1), parts(l, 9, 2), {l[:1], l[:1], l[:1]},
	}
}

func copied(lists [][]api.Cell) [][]api.Cell {
	var c [][]api.Cell
	for _, l := range lists {
		c = append(c, roomy(l))
	}
	return c
}

// calls are all calls, by lists; those of one list, of each.
func calls() map[string]func(lists [][]api.Cell) [][]api.Cell {
	each := func(f func([]api.Cell, int) []api.Cell, at int) func([][]api.Cell) [][]api.Cell {
		return func(lists [][]api.Cell) [][]api.Cell {
			var told [][]api.Cell
			for _, l := range lists {
				told = append(told, f(l, at))
			}
			return told
		}
	}
	m := map[string]func([][]api.Cell) [][]api.Cell{
		"All": func(lists [][]api.Cell) [][]api.Cell { return [][]api.Cell{merge.All(lists)} },
	}
	for _, at := range []int{-1, 0, 5, mostAt} {
		m["Clean "+strconv.Itoa(at)] = each(merge.Clean, at)
		m["Visible "+strconv.Itoa(at)] = each(merge.Visible, at)
	}
	return m
}

func sameLists(a, b [][]api.Cell) bool {
	return slices.EqualFunc(a, b, func(l, m []api.Cell) bool { return slices.Equal(l, m) })
}

// whole are the lists with the memory behind them.
func whole(lists [][]api.Cell) [][]api.Cell {
	var w [][]api.Cell
	for _, l := range lists {
		w = append(w, l[:cap(l)])
	}
	return w
}

func TestWhatIsHandedInStays(t *testing.T) {
	for name, call := range calls() {
		for i, lists := range handed() {
			in := copied(lists)
			was := copied(whole(in))
			call(in)
			if !sameLists(in, lists) || !sameLists(whole(in), was) {
				t.Errorf("%s: lists %d have changed", name, i)
			}
		}
	}
}

func TestWhatIsAnsweredIsNewMemory(t *testing.T) {
	for name, call := range calls() {
		for i, lists := range handed() {
			in := copied(lists)
			was := copied(whole(in))
			told := call(in)
			want := copied(told)
			for _, l := range told {
				spoil(l)
				_ = append(l, api.Cell{Row: "more"})
			}
			if !sameLists(in, lists) || !sameLists(whole(in), was) {
				t.Errorf("%s: lists %d have changed with what was answered", name, i)
			}
			if !sameLists(call(in), want) {
				t.Errorf("%s: lists %d: another answer the second time", name, i)
			}
		}
	}
}

func TestWhatIsAnsweredStays(t *testing.T) {
	for name, call := range calls() {
		for i, lists := range handed() {
			in := copied(lists)
			told, again := call(in), call(in)
			want := copied(told)
			for _, l := range again {
				spoil(l)
			}
			if !sameLists(told, want) {
				t.Errorf("%s: lists %d: the answer has changed with another one", name, i)
			}
			for k, l := range in {
				spoil(l)
				in[k] = nil
			}
			if !sameLists(told, want) {
				t.Errorf("%s: lists %d: the answer has changed with what was handed in", name, i)
			}
		}
	}
}

// P1: every call ends, with lists that aren't sorted too, and tells the same each time.
func TestNoCallPanics(t *testing.T) {
	wrong := []api.Cell{
		{}, {Gone: true}, {Row: "b", Col: "x", At: -1}, {Row: "a", Col: "x", At: math.MaxInt}, {Row: "a", Col: "x", At: math.MinInt, Value: "v", Gone: true},
		{Row: "a", Col: "x"}, {Row: "a", Col: "x"}, {Row: of(65), Col: of(1 << 16)}, {Row: "a", Col: "x", At: 1},
	}
	back := many()
	slices.Reverse(back)
	for _, lists := range [][][]api.Cell{{wrong}, {wrong, wrong}, {back, many()}, {many(), wrong, back, nil}} {
		for name, call := range calls() {
			if !sameLists(call(lists), call(lists)) {
				t.Errorf("%s tells two things", name)
			}
		}
	}
}
