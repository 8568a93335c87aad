package table_test

import (
	"bytes"
	"encoding/binary"
	"encoding/hex"
	"fmt"
	"hash/crc32"
	"math"
	"math/rand"
	"slices"
	"sort"
	"strings"
	"testing"

	"shardlog/api"
	"shardlog/table"
)

const (
	mostAt  = 1<<32 - 1
	longest = 65535 // bytes of a record
	head    = 12    // bytes of a frame ahead of its record
)

// The words of the chapter, and of those that it names, once more, by the Go library
// alone.

func isRight(c api.Cell) bool {
	for _, s := range []string{c.Row, c.Col} {
		if len(s) < 1 || len(s) > 64 {
			return false
		}
	}
	if c.At < 0 || c.At > mostAt || len(c.Value) > 256 {
		return false
	}
	return !c.Gone || c.Value == ""
}

func ahead(a, b api.Cell) bool {
	if a.Row != b.Row {
		return a.Row < b.Row
	}
	if a.Col != b.Col {
		return a.Col < b.Col
	}
	return a.At > b.At
}

func isSorted(l []api.Cell) bool {
	for i, c := range l {
		if !isRight(c) || i > 0 && !ahead(l[i-1], c) {
			return false
		}
	}
	return true
}

func join(parts ...[]byte) []byte { return slices.Concat(parts...) }

func num(n int) []byte { return binary.BigEndian.AppendUint32(nil, uint32(n)) }

func text(s string) []byte { return join(num(len(s)), []byte(s)) }

// spelt is a cell's bytes, of one that isn't right too.
func spelt(c api.Cell) []byte {
	gone := []byte{0}
	if c.Gone {
		gone[0] = 1
	}
	return join(text(c.Row), text(c.Col), num(c.At), gone, text(c.Value))
}

func speltAll(l []api.Cell) []byte {
	var b []byte
	for _, c := range l {
		b = append(b, spelt(c)...)
	}
	return b
}

func sum(b []byte) int {
	return int(crc32.Checksum(b, crc32.MakeTable(crc32.Castagnoli)))
}

// framed is the frame of a record, of one that is too long too.
func framed(rec []byte) []byte {
	length := num(len(rec))
	return join(length, num(sum(length)), num(sum(rec)), rec)
}

// blocked is a block's bytes, of a list too of which there is no block.
func blocked(l []api.Cell) []byte {
	return framed(join(num(len(l)), speltAll(l)))
}

func keyText(c api.Cell) []byte { return join(text(c.Row), text(c.Col)) }

// bitsOf are a key's bits of n.
func bitsOf(key []byte, n int) []int {
	a, b := sum(key), sum(join([]byte{1}, key))
	return []int{a % n, (a + b) % (1 << 32) % n, (a + 2*b) % (1 << 32) % n}
}

func filterOf(l []api.Cell) []byte {
	f := make([]byte, max(1, len(l)))
	for _, c := range l {
		for _, i := range bitsOf(keyText(c), 8*len(f)) {
			f[i/8] |= 1 << (i % 8)
		}
	}
	return f
}

func hasAll(f []byte, key []byte) bool {
	for _, i := range bitsOf(key, 8*len(f)) {
		if f[i/8]>>(i%8)%2 == 0 {
			return false
		}
	}
	return true
}

// newest looks at each cell by itself.
func newest(l []api.Cell, row, col string, at int) (api.Cell, bool) {
	for _, c := range l {
		if c.Row == row && c.Col == col && c.At <= at {
			return c, true
		}
	}
	return api.Cell{}, false
}

// divided are the lists of cells that a list is cut into at a size.
func divided(l []api.Cell, size int) [][]api.Cell {
	var blocks [][]api.Cell
	first, n := 0, 0
	for i, c := range l {
		n += len(spelt(c))
		if n >= size || i == len(l)-1 {
			blocks = append(blocks, l[first:i+1])
			first, n = i+1, 0
		}
	}
	return blocks
}

// parts are what a table's bytes are made of, so that a test may change one of them
// and leave right sums.
type parts struct {
	blocks [][]byte
	count  int
	keys   []api.Cell
	starts []int
	filter []byte
	behind []byte // what the footer has more
}

func partsOf(blocks [][]api.Cell) parts {
	p := parts{count: len(blocks), filter: filterOf(slices.Concat(blocks...))}
	start := 0
	for _, l := range blocks {
		p.keys = append(p.keys, api.Cell{Row: l[0].Row, Col: l[0].Col, At: l[0].At})
		p.starts = append(p.starts, start)
		p.blocks = append(p.blocks, blocked(l))
		start += len(blocked(l))
	}
	return p
}

func (p parts) footer() []byte {
	b := num(p.count)
	for i, c := range p.keys {
		b = append(b, join(spelt(c), num(p.starts[i]))...)
	}
	return join(b, text(string(p.filter)), p.behind)
}

func (p parts) bytes() []byte { return ended(join(p.blocks...), p.footer()) }

// ended is what stands ahead of a footer, and the footer, closed as a table's is.
func ended(body, footer []byte) []byte {
	f := framed(footer)
	return join(body, f, num(len(f)))
}

// built is what Build must answer, and whether it is a table.
func built(l []api.Cell, size int) ([]byte, bool) {
	if size < 1 || !isSorted(l) {
		return nil, false
	}
	blocks := divided(l, size)
	for _, cells := range blocks {
		if len(blocked(cells)) > head+longest {
			return nil, false
		}
	}
	p := partsOf(blocks)
	if len(p.footer()) > longest {
		return nil, false
	}
	return p.bytes(), true
}

// reader takes what a record has from its beginning on; bad: it had too little, or
// what can't be.
type reader struct {
	b   []byte
	bad bool
}

func (r *reader) take(n int) []byte {
	if r.bad || n > len(r.b) {
		r.bad = true
		return make([]byte, min(n, 4))
	}
	b := r.b[:n]
	r.b = r.b[n:]
	return b
}

func (r *reader) num() int { return int(binary.BigEndian.Uint32(r.take(4))) }

func (r *reader) text() string { return string(r.take(r.num())) }

func (r *reader) cell() api.Cell {
	c := api.Cell{Row: r.text(), Col: r.text(), At: r.num()}
	gone := r.take(1)[0]
	c.Gone, c.Value = gone == 1, r.text()
	r.bad = r.bad || gone > 1
	return c
}

// opened is what the bytes tell, if some Build answers them: the frames are read
// from the beginning, all but the last as blocks, and what their cells are built to
// at each size that can matter is held against the bytes.
func opened(b []byte) ([][]api.Cell, bool) {
	if len(b) < 4 {
		return nil, false
	}
	var recs [][]byte
	for left := b[:len(b)-4]; len(left) > 0; {
		if len(left) < head {
			return nil, false
		}
		n := int(binary.BigEndian.Uint32(left))
		if n > longest || n > len(left)-head {
			return nil, false
		}
		recs, left = append(recs, left[head:head+n]), left[head+n:]
	}
	var blocks [][]api.Cell
	var l []api.Cell
	for i := 0; i < len(recs)-1; i++ {
		r := reader{b: recs[i]}
		var cells []api.Cell
		for n := r.num(); n > len(cells) && !r.bad; {
			cells = append(cells, r.cell())
		}
		if r.bad {
			return nil, false
		}
		blocks, l = append(blocks, cells), append(l, cells...)
	}
	for _, size := range sizes(l) {
		if want, ok := built(l, size); ok && bytes.Equal(b, want) {
			return blocks, true
		}
	}
	return nil, false
}

// sizes are such as cut the cells in all ways that there are: a block's end changes
// just where its cells have as many bytes as are told.
func sizes(l []api.Cell) []int {
	set := map[int]bool{1: true}
	for i := range l {
		n := 0
		for _, c := range l[i:] {
			n += len(spelt(c))
			set[n], set[n+1] = true, true
		}
	}
	var all []int
	for n := range set {
		all = append(all, n)
	}
	sort.Ints(all)
	return all
}

// Messages.

func say(c api.Cell) string {
	return fmt.Sprintf("(%.20q %.20q %d %.20q %v)", c.Row, c.Col, c.At, c.Value, c.Gone)
}

// sayAll is some of them: all would fill the screen.
func sayAll(l []api.Cell) string {
	var b strings.Builder
	fmt.Fprintf(&b, "%d cells ", len(l))
	for _, c := range l[:min(len(l), 6)] {
		b.WriteString(say(c))
	}
	return b.String()
}

func short(b []byte) string {
	if len(b) > 200 {
		return fmt.Sprint(len(b), " bytes ", hex.EncodeToString(b[:200]), "..")
	}
	return hex.EncodeToString(b)
}

// Cells that the tests share.

func of(n int) string { return strings.Repeat("n", n) }

// many are cells of all edges, in order.
func many() []api.Cell {
	var l []api.Cell
	for _, row := range []string{"a", "a\x00", "aa", "ab", "b", "\x00", "\xff\xfe", "gr\u00fc\u00df", of(64)} {
		for _, col := range []string{"a", "b", "\xff", of(64)} {
			for i, at := range []int{mostAt, 1 << 31, 256, 7, 0} {
				c := api.Cell{Row: row, Col: col, At: at, Value: of([]int{0, 256, 1, 255, 20}[i])}
				if i == 0 && col != "b" {
					c.Gone = true
				}
				l = append(l, c)
			}
		}
	}
	sort.Slice(l, func(i, j int) bool { return ahead(l[i], l[j]) })
	return l
}

// few are cells of 22 bytes each, but for the last ones of 19, 401 and 24.
func few() []api.Cell {
	var l []api.Cell
	for _, s := range []string{"a", "b", "c", "d", "e"} {
		l = append(l, api.Cell{Row: s, Col: "x", Value: s + s + s})
	}
	return append(l, api.Cell{Row: "f", Col: "x", At: 3, Gone: true},
		api.Cell{Row: of(64), Col: of(64), At: mostAt, Value: strings.Repeat("v", 256)},
		api.Cell{Row: "z", Col: "x", At: 9, Value: "zzzzz"})
}

// thousands are cells of 19 bytes each, the least that one has.
func thousands(n int) []api.Cell {
	var l []api.Cell
	for i := range n {
		l = append(l, api.Cell{Row: "r", Col: "c", At: n - i, Gone: i%2 == 0})
	}
	return l
}

// rows are n cells of rows and columns of their own.
func rows(n int) []api.Cell {
	var l []api.Cell
	for i := range n {
		l = append(l, api.Cell{Row: fmt.Sprintf("row%05d", i), Col: fmt.Sprint(i % 7), At: i, Value: fmt.Sprint(i)})
	}
	return l
}

// filling is a sorted list that makes one block whose record has just n bytes: 4,
// and those of cells of 100 and more.
func filling(n int) []api.Cell {
	left := n - 4
	var l []api.Cell
	for i := 1 << 20; left > 0; i-- {
		long := 100
		if left < 200 {
			long = left
		}
		l = append(l, api.Cell{Row: "r", Col: "c", At: i, Value: of(long - 19)})
		left -= long
	}
	return l
}

// someSorted are lists in order; of no cells too.
func someSorted() [][]api.Cell {
	l := [][]api.Cell{
		nil, {}, few(), few()[:1], few()[:2], few()[5:6], few()[6:7], few()[6:], many(), many()[:1], many()[:40], many()[77:100], thousands(300), rows(1), rows(100),
		{{Row: "a", Col: "x", At: 9, Value: "9"}, {Row: "a", Col: "x", At: 3, Value: "3"}}, {{Row: "a", Col: "bc"}, {Row: "ab", Col: "c"}},
		{{Row: "a", Col: "x", At: 1}, {Row: "a", Col: "x", Gone: true}, {Row: "a", Col: "y"}}, {{Row: "a", Col: "x", At: 3, Gone: true}},
	}
	for n := range 12 {
		l = append(l, many()[n*10:n*11+1])
	}
	return l
}

func someSizes() []int {
	return []int{1, 2, 19, 22, 23, 40, 44, 45, 100, 401, 402, 1000, 4096, 30000, 1 << 31, math.MaxInt}
}

// wrong are cells that aren't right, in one thing alone each, but for the last.
func wrong() []api.Cell {
	return []api.Cell{
		{Col: "x"}, {Row: "a"}, {Row: of(65), Col: "x"}, {Row: "a", Col: of(65)}, {Row: "a", Col: "x", At: -1}, {Row: "a", Col: "x", At: mostAt + 1},
		{Row: "a", Col: "x", At: math.MinInt}, {Row: "a", Col: "x", At: math.MaxInt}, {Row: "a", Col: "x", Value: of(257)},
		{Row: "a", Col: "x", Value: of(1 << 16)}, {Row: "a", Col: "x", Value: "v", Gone: true}, {},
	}
}

// unsorted are lists of which nothing is built: cells that aren't in order, twice
// the same key, cells that aren't right.
func unsorted() [][]api.Cell {
	a := api.Cell{Row: "a", Col: "x", At: 5, Value: "v"}
	other := a
	other.Value = "w"
	gone := api.Cell{Row: "a", Col: "x", At: 5, Gone: true}
	l := [][]api.Cell{
		{a, a}, {a, other}, {gone, a}, {a, gone}, {few()[1], few()[0]}, {few()[0], few()[2], few()[1]},
		{{Row: "a", Col: "x", At: 3}, {Row: "a", Col: "x", At: 9}}, {{Row: "a", Col: "y", At: 9}, {Row: "a", Col: "x", At: 3}},
		{{Row: "a", Col: "x"}, {Row: "Z", Col: "x"}}, {{Row: "\x80", Col: "x"}, {Row: "a", Col: "x"}},
	}
	for _, c := range wrong() {
		behind := api.Cell{Row: "\xff", Col: "\xff"}
		l = append(l, []api.Cell{c}, []api.Cell{c, behind}, append(many(), c))
	}
	back := many()
	slices.Reverse(back)
	twice := slices.Insert(many(), 50, many()[49])
	late := append(thousands(3000), api.Cell{Row: "a", Col: "x"})
	return append(l, back, twice, late, append(many(), many()[0]))
}

// Asking.

func expectBuild(t *testing.T, l []api.Cell, size int) {
	t.Helper()
	want, ok := built(l, size)
	b, e := table.Build(l, size)
	if ok && (e != api.OK || !bytes.Equal(b, want)) || !ok && (e != api.ErrArg || len(b) != 0) {
		t.Errorf("Build of %s, size %d: %s, %d, want %s", sayAll(l), size, short(b), e, short(want))
	}
}

// expectNone asks of bytes that the tests know to be no table.
func expectNone(t *testing.T, what string, b []byte) {
	t.Helper()
	if x, e := table.Open(b); x != nil || e != api.ErrForm {
		t.Errorf("%s: Open(%s) = %v, %d", what, short(b), x != nil, e)
	}
}

// checkOpen holds Open against the words, whatever the bytes are, and tells whether
// they are a table.
func checkOpen(t *testing.T, b []byte) bool {
	t.Helper()
	blocks, ok := opened(b)
	x, e := table.Open(b)
	if !ok {
		if x != nil || e != api.ErrForm {
			t.Errorf("Open(%s) = %v, %d", short(b), x != nil, e)
		}
		return false
	}
	if x == nil || e != api.OK {
		t.Errorf("Open(%s) = %v, %d, want %d blocks", short(b), x != nil, e, len(blocks))
		return true
	}
	expectTable(t, x, blocks)
	return true
}

// asked are keys to ask a table for: those of its cells, at several times, and such
// as stand near them.
func asked(l []api.Cell) []api.Cell {
	keys := []api.Cell{{}, {Row: "a"}, {Col: "a"}, {Row: of(65), Col: "x"}, {Row: "x", Col: of(300)}, {Row: "\xff\xff", Col: "\xff"}, {Row: "row", Col: "0"}}
	for _, c := range l[:min(len(l), 200)] {
		for _, row := range []string{c.Row, c.Row + "\x00", c.Row[1:], c.Row + c.Col} {
			for _, col := range []string{c.Col, c.Col + "\x00", c.Col[1:]} {
				keys = append(keys, api.Cell{Row: row, Col: col, At: c.At}, api.Cell{Row: row, Col: col, At: c.At - 1}, api.Cell{Row: row, Col: col, At: c.At + 1})
			}
		}
		for _, at := range []int{math.MinInt, -1, 0, 1 << 31, mostAt, mostAt + 1, math.MaxInt} {
			keys = append(keys, api.Cell{Row: c.Row, Col: c.Col, At: at})
		}
	}
	return keys
}

// expectTable asks all of a table that has these blocks.
func expectTable(t *testing.T, x *table.Table, blocks [][]api.Cell) {
	t.Helper()
	l := slices.Concat(blocks...)
	if got := x.Cells(); !slices.Equal(got, l) {
		t.Errorf("Cells: %s, want %s", sayAll(got), sayAll(l))
	}
	if n := x.Blocks(); n != len(blocks) {
		t.Errorf("%s: %d blocks, want %d", sayAll(l), n, len(blocks))
	}
	expectKeys(t, x, l)
}

func expectKeys(t *testing.T, x *table.Table, l []api.Cell) {
	t.Helper()
	f := filterOf(l)
	for _, k := range asked(l) {
		want, ok := newest(l, k.Row, k.Col, k.At)
		if c, is := x.Get(k.Row, k.Col, k.At); c != want || is != ok {
			t.Errorf("%s: Get of %s: %s, %v, want %s, %v", sayAll(l), say(k), say(c), is, say(want), ok)
		}
		if may := x.May(k.Row, k.Col); may != hasAll(f, keyText(k)) {
			t.Errorf("%s: May of %s: %v", sayAll(l), say(k), may)
		}
	}
}

// open is a table of which a test goes on.
func open(t *testing.T, b []byte) *table.Table {
	t.Helper()
	x, e := table.Open(b)
	if x == nil || e != api.OK {
		t.Fatalf("Open(%s): %v, %d", short(b), x != nil, e)
	}
	return x
}

// P12.1

// The bytes were worked out apart from the program.
func TestBuildByTheLetter(t *testing.T) {
	l := []api.Cell{{Row: "a", Col: "x", At: 9, Value: "v"}, {Row: "a", Col: "x", At: 3, Gone: true}, {Row: "b", Col: "x", At: 7}}
	three := "0000003e" + "d4fcbd51" + "948f6277" + "00000003" + "0000000161000000017800000009000000000176" + "00000001610000000178000000030100000000" + "00000001620000000178000000070000000000"
	both := "0000002b" + "f1536e22" + "276f0384" + "00000002" + "0000000161000000017800000009000000000176" + "00000001610000000178000000030100000000"
	last := "00000017" + "8cf3e843" + "ea74c2c4" + "00000001" + "00000001620000000178000000070000000000"
	for _, c := range []struct {
		cells []api.Cell
		size  int
		want  string
	}{
		// the chapter's example: a footer without blocks
		{nil, 5, "00000009" + "30d5900b" + "a847f0d4" + "00000000" + "0000000100" + "00000015"},
		{l, 59, three + "00000022" + "89e1b5ee" + "8493a669" + "00000001" + "00000001610000000178000000090000000000" + "00000000" + "00000003128038" + "0000002e"},
		{l, 21, both + last + "00000039" + "0036d9ba" + "cb1e5a44" + "00000002" + "00000001610000000178000000090000000000" + "00000000" +
			"00000001620000000178000000070000000000" + "00000037" + "00000003128038" + "00000045"},
		// the key in the footer isn't Gone
		{l[1:2], 1, "00000017" + "8cf3e843" + "c8039d1c" + "00000001" + "00000001610000000178000000030100000000" +
			"00000020" + "68dac519" + "cc066f33" + "00000001" + "00000001610000000178000000030000000000" + "00000000" + "0000000192" + "0000002c"},
	} {
		b, e := table.Build(c.cells, c.size)
		if hex.EncodeToString(b) != c.want || e != api.OK {
			t.Errorf("size %d: %x, %d, want %s", c.size, b, e, c.want)
		}
		raw, _ := hex.DecodeString(c.want)
		if x := open(t, raw); !slices.Equal(x.Cells(), c.cells) {
			t.Errorf("size %d: %s", c.size, sayAll(x.Cells()))
		}
	}
}

func TestBuild(t *testing.T) {
	for _, l := range someSorted() {
		all := len(speltAll(l))
		for _, size := range append(someSizes(), all/2, all-1, all, all+1, all+4, all+12) {
			expectBuild(t, l, size)
		}
	}
}

// Each size up to one that all cells are too few for.
func TestBuildOfAllSizes(t *testing.T) {
	for _, l := range [][]api.Cell{nil, few(), many()[:5], many()[60:64], thousands(8)} {
		for size := 1; size < len(speltAll(l))+3; size++ {
			expectBuild(t, l, size)
		}
	}
}

func TestBuildOfWrongSizes(t *testing.T) {
	for _, size := range []int{0, -1, -2, -22, -1 << 31, -1 << 32, math.MinInt, math.MinInt + 1} {
		for _, l := range append(someSorted(), unsorted()[0]) {
			if b, e := table.Build(l, size); len(b) != 0 || e != api.ErrArg {
				t.Errorf("%s, size %d: %s, %d", sayAll(l), size, short(b), e)
			}
		}
	}
}

func TestBuildOfWhatIsNotSorted(t *testing.T) {
	for _, l := range unsorted() {
		for _, size := range []int{1, 22, 1000, math.MaxInt} {
			if b, e := table.Build(l, size); len(b) != 0 || e != api.ErrArg {
				t.Errorf("%s, size %d: %s, %d", sayAll(l), size, short(b), e)
			}
		}
	}
}

// A block with as many bytes as a frame may have, and with more. Cut into shorter ones
// the same cells are a table.
func TestBuildOfTheLongestBlocks(t *testing.T) {
	for n, want := range map[int]api.Errno{longest - 1: api.OK, longest: api.OK, longest + 1: api.ErrArg, longest + 4: api.ErrArg, 1 << 17: api.ErrArg} {
		l := filling(n)
		for size, e := range map[int]api.Errno{n - 4: want, n: want, math.MaxInt: want, 5000: api.OK} {
			if b, f := table.Build(l, size); f != e || (len(b) > 0) != (f == api.OK) {
				t.Errorf("%d bytes, size %d: %s, %d", n, size, short(b), f)
			}
			expectBuild(t, l, size)
		}
	}
}

// One block of three is as long as a frame may be, or one byte longer: its last cell
// takes it there.
func TestBuildOfOneGreatBlock(t *testing.T) {
	for _, place := range []int{0, 1, 2} {
		for _, more := range []int{longest - 4 - 65400, longest - 4 - 65400 + 1} {
			var l []api.Cell
			for i := range 3 {
				for k := range 654 {
					l = append(l, api.Cell{Row: fmt.Sprint(i), Col: "c", At: 999 - k, Value: of(100 - 19)})
				}
				long := 50
				if i == place {
					long = more
				}
				l = append(l, api.Cell{Row: fmt.Sprint(i), Col: "c", Value: of(long - 19)})
			}
			want := api.OK
			if more > longest-4-65400 {
				want = api.ErrArg
			}
			if b, e := table.Build(l, 65401); e != want || (len(b) > 0) != (e == api.OK) {
				t.Errorf("block %d, %d bytes more: %s, %d", place, more, short(b), e)
			}
			expectBuild(t, l, 65401)
		}
	}
}

// A footer with as many bytes as a frame may have, and with one more: of many blocks,
// and of many cells.
func TestBuildOfTheLongestFooters(t *testing.T) {
	for _, c := range []struct {
		cells, long, size int
		want              api.Errno
	}{
		// 4 and 5 for the number and the text, 24 for each cell alone, and the names beyond one byte each
		{2729, 0, 1, api.OK}, {2730, 6, 1, api.OK}, {2730, 7, 1, api.OK}, {2730, 8, 1, api.ErrArg}, {2731, 0, 1, api.ErrArg}, {9000, 0, 1, api.ErrArg},
		// one byte for each cell, and 23 for each of 20 blocks
		{65066, 0, 19 * 3400, api.OK}, {65067, 0, 19 * 3400, api.OK}, {65068, 0, 19 * 3400, api.ErrArg}, {65067, 1, 19 * 3400, api.ErrArg}, {65536, 0, 19 * 3400, api.ErrArg},
		{150000, 0, 19 * 3400, api.ErrArg},
	} {
		l := thousands(c.cells)
		if c.long > 0 {
			l[0].Row = "a" + of(c.long) // the first cell's key, which a footer has at any size
		}
		if b, e := table.Build(l, c.size); e != c.want || (len(b) > 0) != (e == api.OK) {
			t.Errorf("%d cells, %d bytes more, size %d: %s, %d", c.cells, c.long, c.size, short(b), e)
		}
		expectBuild(t, l, c.size)
	}
}

// P12.2

func TestOpen(t *testing.T) {
	for _, l := range someSorted() {
		for _, size := range someSizes() {
			b, ok := built(l, size)
			if !ok {
				t.Fatalf("%s, size %d", sayAll(l), size)
			}
			expectTable(t, open(t, b), divided(l, size))
		}
	}
}

func TestOpenOfTheLongest(t *testing.T) {
	for _, c := range []struct {
		l    []api.Cell
		size int
	}{{filling(longest), longest}, {filling(longest), 1 << 20}, {filling(longest), 200}, {thousands(2730), 1}, {thousands(65067), 19 * 3400}, {rows(40000), 30000}} {
		b, ok := built(c.l, c.size)
		if !ok {
			t.Fatalf("%s, size %d", sayAll(c.l), c.size)
		}
		x := open(t, b)
		if n := len(divided(c.l, c.size)); !slices.Equal(x.Cells(), c.l) || x.Blocks() != n {
			t.Errorf("%s, size %d: %s, %d blocks, want %d", sayAll(c.l), c.size, sayAll(x.Cells()), x.Blocks(), n)
		}
		for _, b := range [][]byte{b[1:], b[:len(b)-1], b[len(b)/2:], append(b, 0)} {
			expectNone(t, "more or less", b)
		}
	}
}

// Keys that no cell has, so many that the filter has some of them.
func TestMay(t *testing.T) {
	for _, l := range [][]api.Cell{nil, rows(1), rows(3), rows(50), many(), thousands(300)} {
		b, _ := built(l, 100)
		x, f := open(t, b), filterOf(l)
		n := 0
		for i := range 4000 {
			k := api.Cell{Row: fmt.Sprint("other", i), Col: fmt.Sprint(i % 3)}
			may := x.May(k.Row, k.Col)
			if may {
				n++
			}
			if may != hasAll(f, keyText(k)) {
				t.Errorf("%s: May of %s: %v", sayAll(l), say(k), may)
			}
			if c, ok := x.Get(k.Row, k.Col, mostAt); ok || c != (api.Cell{}) {
				t.Errorf("%s: Get of %s: %s, %v", sayAll(l), say(k), say(c), ok)
			}
		}
		if none := n == 0; none != (len(l) == 0 || len(l) == 300) { // 300 cells of one key have but three bits
			t.Errorf("%s: %d keys may be there", sayAll(l), n)
		}
	}
}

// The key's text tells where Row ends. The key has 160 bits for its three, so that
// few others are taken for it.
func TestMayOfNeighbours(t *testing.T) {
	var l []api.Cell
	for at := 20; at > 0; at-- {
		l = append(l, api.Cell{Row: "ab", Col: "cd", At: at})
	}
	b, _ := built(l, 1)
	x := open(t, b)
	for _, k := range [][2]string{{"abc", "d"}, {"a", "bcd"}, {"abcd", ""}, {"", "abcd"}, {"cd", "ab"}, {"ab", "c"}, {"b", "cd"}} {
		if x.May(k[0], k[1]) {
			t.Errorf("%q may be there", k)
		}
	}
	if !x.May("ab", "cd") {
		t.Error("the key may not be there")
	}
}

// Rows and columns that are longer than those of a right cell.
func TestMayOfLongKeys(t *testing.T) {
	b, _ := built(rows(9), 100)
	x, f := open(t, b), filterOf(rows(9))
	for n := range 300 {
		k := api.Cell{Row: of(n), Col: of(100000 / (n + 1))}
		if may := x.May(k.Row, k.Col); may != hasAll(f, keyText(k)) {
			t.Errorf("May of %d and %d bytes: %v", len(k.Row), len(k.Col), may)
		}
		if c, ok := x.Get(k.Row, k.Col, mostAt); ok || c != (api.Cell{}) {
			t.Errorf("Get of %d and %d bytes: %s, %v", len(k.Row), len(k.Col), say(c), ok)
		}
	}
}

// A key's cells in several blocks: those that begin in one go on in the next.
func TestGetOverBlocks(t *testing.T) {
	var l []api.Cell
	for _, col := range []string{"a", "b", "c"} {
		for at := 40; at > 0; at -= 2 {
			l = append(l, api.Cell{Row: "r", Col: col, At: at, Value: fmt.Sprint(col, at)})
		}
	}
	for size := 1; size < 200; size += 7 {
		b, _ := built(l, size)
		x := open(t, b)
		for _, col := range []string{"a", "aa", "b", "c", "d"} {
			for at := -2; at < 45; at++ {
				want, ok := newest(l, "r", col, at)
				if c, is := x.Get("r", col, at); c != want || is != ok {
					t.Errorf("size %d: Get of %q at %d: %s, %v", size, col, at, say(c), is)
				}
			}
		}
	}
}

func TestOpenOfShortBytes(t *testing.T) {
	for n := range 60 {
		for _, b := range [][]byte{make([]byte, n), bytes.Repeat([]byte{255}, n), bytes.Repeat([]byte{0, 0, 0, byte(n)}, n/4)} {
			expectNone(t, "short", b)
		}
	}
	for n := range 25 {
		for i := range 40 {
			expectNone(t, "a number", join(make([]byte, n), num(i)))
		}
		expectNone(t, "a number", join(make([]byte, n), num(mostAt)))
		expectNone(t, "a number", join(make([]byte, n), num(1<<31)))
	}
}

func TestOpenOfBeginningsAndEnds(t *testing.T) {
	for _, l := range [][]api.Cell{nil, few()[:3], few()[5:7], many()[:4]} {
		for _, size := range []int{1, 30, 1000} {
			b, _ := built(l, size)
			for n := range b {
				expectNone(t, "a beginning", b[:n])
				expectNone(t, "an end", b[n+1:])
			}
		}
	}
}

// A table behind a table, and other bytes ahead of one, behind it, or within it.
func TestOpenOfMoreBytes(t *testing.T) {
	more := [][]byte{{0}, {1, 2, 3}, num(0), num(21), framed(nil), framed([]byte{7}), blocked(few()[:1]), make([]byte, 12)}
	for _, l := range [][]api.Cell{nil, few()[:1], few()} {
		for _, size := range []int{1, 30, 1000} {
			b, _ := built(l, size)
			p := partsOf(divided(l, size))
			places := []int{0, len(b), len(b) - 4}
			for i := range p.blocks {
				places = append(places, len(join(p.blocks[:i+1]...)))
			}
			for _, m := range append(more, b) {
				for _, at := range places {
					expectNone(t, "more bytes", slices.Insert(slices.Clone(b), at, m...))
				}
			}
		}
	}
}

// Each byte of a table, changed to whatever else: it is none.
func TestOpenOfTurnedBytes(t *testing.T) {
	for _, l := range [][]api.Cell{nil, few()[:3], few()[5:7]} {
		for _, size := range []int{1, 30, 1000} {
			b, _ := built(l, size)
			for at := range b {
				for v := range 256 {
					turned := slices.Clone(b)
					turned[at] = byte(v)
					if v != int(b[at]) {
						expectNone(t, fmt.Sprint("byte ", at, " is ", v), turned)
					}
				}
			}
		}
	}
}

// Each byte of a block's record and of a footer, changed ahead of the sums: some are
// tables nonetheless.
func TestOpenOfChangedRecords(t *testing.T) {
	tables := 0
	for _, l := range [][]api.Cell{nil, few()[:2], few()[4:6], {few()[5]}} {
		for _, size := range []int{1, 1000} {
			p := partsOf(divided(l, size))
			for i := range len(p.blocks) + 1 {
				rec := p.footer()
				if i < len(p.blocks) {
					rec = p.blocks[i][head:]
				}
				for at := range rec {
					for v := range 256 {
						changed := slices.Clone(rec)
						changed[at] = byte(v)
						body := slices.Clone(p.blocks)
						footer := changed
						if i < len(p.blocks) {
							body[i], footer = framed(changed), p.footer()
						}
						if checkOpen(t, ended(join(body...), footer)) {
							tables++
						}
					}
				}
			}
		}
	}
	if tables < 2000 {
		t.Errorf("%d tables", tables)
	}
}

// All ways to divide cells of two sizes into blocks: but those of some size are no
// table.
func TestOpenOfAllDivisions(t *testing.T) {
	tables := 0
	for set := range 1 << 6 {
		var l []api.Cell
		for i := range 6 {
			l = append(l, api.Cell{Row: "a", Col: "x", At: 9 - i, Value: of(20 * (set >> i & 1))})
		}
		for cuts := range 1 << 5 {
			var blocks [][]api.Cell
			first := 0
			for i := range l {
				if i == len(l)-1 || cuts>>i&1 == 1 {
					blocks, first = append(blocks, l[first:i+1]), i+1
				}
			}
			b := partsOf(blocks).bytes()
			is := false
			for size := 1; size < 250 && !is; size++ {
				is = slices.EqualFunc(divided(l, size), blocks, slices.Equal)
			}
			x, e := table.Open(b)
			if is && (e != api.OK || x == nil || x.Blocks() != len(blocks)) || !is && (e != api.ErrForm || x != nil) {
				t.Errorf("lengths %b, cut behind %b: %v, %d, want %v", set, cuts, x != nil, e, is)
			}
			if is {
				tables++
			}
		}
	}
	if tables < 64 || tables > 1000 {
		t.Errorf("%d tables", tables)
	}
}

// Blocks that are some size's but for one more byte, or one less.
func TestOpenAtTheEdgesOfSizes(t *testing.T) {
	cell := func(at, long int) api.Cell { return api.Cell{Row: "a", Col: "x", At: at, Value: of(long - 19)} }
	for _, c := range []struct {
		blocks [][]api.Cell
		is     bool
	}{
		// the size is 41 or more for the first block, 60 or less for it, and what the last one has doesn't count
		{[][]api.Cell{{cell(9, 40), cell(8, 20)}, {cell(7, 20)}}, true},
		{[][]api.Cell{{cell(9, 40), cell(8, 20)}, {cell(7, 41)}, {cell(6, 20)}}, true},
		{[][]api.Cell{{cell(9, 40), cell(8, 20)}, {cell(7, 40)}, {cell(6, 20)}}, false},
		{[][]api.Cell{{cell(9, 40), cell(8, 20)}, {cell(7, 59), cell(6, 20)}}, true},
		{[][]api.Cell{{cell(9, 40), cell(8, 20)}, {cell(7, 60), cell(6, 20)}}, false},
		{[][]api.Cell{{cell(9, 60)}, {cell(8, 30), cell(7, 29), cell(6, 20)}}, true},
		{[][]api.Cell{{cell(9, 60)}, {cell(8, 30), cell(7, 30), cell(6, 20)}}, false},
		{[][]api.Cell{{cell(9, 60)}, {cell(8, 59), cell(7, 20)}, {cell(6, 100)}}, true},
		{[][]api.Cell{{cell(9, 60)}, {cell(8, 60), cell(7, 20)}, {cell(6, 100)}}, false},
		{[][]api.Cell{{cell(9, 20)}, {cell(8, 19), cell(7, 19)}}, true},
		{[][]api.Cell{{cell(9, 19)}, {cell(8, 19), cell(7, 19)}}, false},
		{[][]api.Cell{{cell(9, 19), cell(8, 19)}, {cell(7, 19)}}, true},
		{[][]api.Cell{{cell(9, 19), cell(8, 19)}, {cell(7, 19)}, {cell(6, 19)}}, false},
		{[][]api.Cell{{cell(9, 19), cell(8, 19)}, {cell(7, 20)}, {cell(6, 19)}}, true},
	} {
		b := partsOf(c.blocks).bytes()
		if is := checkOpen(t, b); is != c.is {
			t.Errorf("%d blocks of %s: %v", len(c.blocks), sayAll(slices.Concat(c.blocks...)), is)
		}
	}
}

// Right sums over what is no table in one thing.
func TestOpenOfNoTables(t *testing.T) {
	l := few()
	whole := partsOf(divided(l, 40))
	if !checkOpen(t, whole.bytes()) {
		t.Fatal("no table as it stands")
	}
	for name, change := range map[string]func(p *parts){
		"one block fewer told":      func(p *parts) { p.count-- },
		"one block more told":       func(p *parts) { p.count++ },
		"no block told":             func(p *parts) { p.count = 0 },
		"very many blocks told":     func(p *parts) { p.count = mostAt },
		"no blocks":                 func(p *parts) { p.blocks = nil },
		"the last block not there":  func(p *parts) { p.blocks = p.blocks[:len(p.blocks)-1] },
		"the first block not there": func(p *parts) { p.blocks = p.blocks[1:] },
		"the last block not in it": func(p *parts) {
			n := len(p.keys) - 1
			p.count, p.keys, p.starts = n, p.keys[:n], p.starts[:n]
		},
		"the first block not in it":  func(p *parts) { p.count, p.keys, p.starts = p.count-1, p.keys[1:], p.starts[1:] },
		"no index":                   func(p *parts) { p.count, p.keys, p.starts = 0, nil, nil },
		"blocks turned about":        func(p *parts) { slices.Reverse(p.blocks) },
		"the index turned about":     func(p *parts) { slices.Reverse(p.keys); slices.Reverse(p.starts) },
		"its keys turned about":      func(p *parts) { slices.Reverse(p.keys) },
		"its places turned about":    func(p *parts) { slices.Reverse(p.starts) },
		"a block twice":              func(p *parts) { p.blocks = slices.Insert(p.blocks, 1, p.blocks[0]) },
		"an index twice":             func(p *parts) { p.keys, p.starts = append(p.keys, p.keys...), append(p.starts, p.starts...) },
		"a key of another row":       func(p *parts) { p.keys[1].Row = "other" },
		"a key of another column":    func(p *parts) { p.keys[1].Col = "y" },
		"a key of another time":      func(p *parts) { p.keys[1].At++ },
		"a key that is Gone":         func(p *parts) { p.keys[1].Gone = true },
		"a key with a value":         func(p *parts) { p.keys[0].Value = l[0].Value },
		"a key with a long value":    func(p *parts) { p.keys[0].Value = of(256) },
		"a key without a row":        func(p *parts) { p.keys[0].Row = "" },
		"a key that is too long":     func(p *parts) { p.keys[0].Row = of(65) },
		"a place one less":           func(p *parts) { p.starts[1]-- },
		"a place one more":           func(p *parts) { p.starts[1]++ },
		"the first place one more":   func(p *parts) { p.starts[0]++ },
		"the first place beyond":     func(p *parts) { p.starts[0] = mostAt },
		"a place beyond":             func(p *parts) { p.starts[2] = mostAt },
		"the last place beyond":      func(p *parts) { p.starts[len(p.starts)-1] = mostAt },
		"the last place in the end":  func(p *parts) { p.starts[len(p.starts)-1] += len(p.blocks[len(p.blocks)-1]) },
		"places alike":               func(p *parts) { p.starts[1] = p.starts[2] },
		"all places the first":       func(p *parts) { clear(p.starts) },
		"a filter with one bit more": func(p *parts) { p.filter[0]++ },
		"a filter of zeros":          func(p *parts) { clear(p.filter) },
		"a filter that has all": func(p *parts) {
			for i := range p.filter {
				p.filter[i] = 255
			}
		},
		"a filter of no bytes":       func(p *parts) { p.filter = nil },
		"a filter of one byte less":  func(p *parts) { p.filter = p.filter[1:] },
		"a filter of one byte more":  func(p *parts) { p.filter = append(p.filter, 0) },
		"a filter twice as long":     func(p *parts) { p.filter = append(p.filter, p.filter...) },
		"a filter of fewer keys":     func(p *parts) { p.filter = filterOf(l[1:]) },
		"a byte behind the filter":   func(p *parts) { p.behind = []byte{0} },
		"a filter behind the filter": func(p *parts) { p.behind = text(string(p.filter)) },
		"a block that isn't one":     func(p *parts) { p.blocks[1] = framed(p.blocks[1][head+1:]) },
		"a block of nothing":         func(p *parts) { p.blocks[1] = framed(num(0)) },
		"a block without a cell":     func(p *parts) { p.blocks[1] = blocked(nil) },
		"a block with another's sum": func(p *parts) { p.blocks[1] = join(p.blocks[1][:8], p.blocks[0][8:head], p.blocks[1][head:]) },
		"a block of other cells": func(p *parts) {
			p.blocks[0] = blocked([]api.Cell{{Row: "a", Col: "x", Value: "aab"}, {Row: "bb", Col: "x", Value: "bb"}})
		},
		"bytes between blocks":        func(p *parts) { p.blocks = slices.Insert(p.blocks, 1, []byte{0}) },
		"bytes ahead of blocks":       func(p *parts) { p.blocks = slices.Insert(p.blocks, 0, []byte{0}) },
		"bytes behind blocks":         func(p *parts) { p.blocks = append(p.blocks, []byte{0}) },
		"a frame behind blocks":       func(p *parts) { p.blocks = append(p.blocks, framed(nil)) },
		"a footer behind blocks":      func(p *parts) { p.blocks = append(p.blocks, framed(p.footer())) },
		"blocks in a frame":           func(p *parts) { p.blocks = [][]byte{framed(join(p.blocks...))} },
		"the whole ahead of a footer": func(p *parts) { p.blocks = [][]byte{p.bytes()} },
	} {
		p := partsOf(divided(l, 40))
		change(&p)
		if bytes.Equal(p.bytes(), whole.bytes()) {
			t.Errorf("%s: nothing is changed", name)
		}
		expectNone(t, name, p.bytes())
		if _, is := opened(p.bytes()); is {
			t.Errorf("%s: the words know it", name)
		}
	}
}

// Bytes between blocks for which the places leave room.
func TestOpenOfGaps(t *testing.T) {
	for _, gap := range [][]byte{{0}, make([]byte, 30), framed(nil), blocked(few()[:1]), few2()} {
		for i := range 4 {
			p := partsOf(divided(few()[:3], 1))
			for k := i; k < 3; k++ {
				p.starts[k] += len(gap)
			}
			p.blocks = slices.Insert(p.blocks, i, gap)
			expectNone(t, fmt.Sprint("a gap ahead of block ", i), p.bytes())
		}
	}
}

func few2() []byte {
	b, _ := built(few()[:2], 30)
	return b
}

// Footers whose number at the end is another one, and such as are no frame.
func TestOpenOfOtherEnds(t *testing.T) {
	p := partsOf(divided(few(), 40))
	body, footer := join(p.blocks...), p.footer()
	f := framed(footer)
	for _, n := range []int{0, 1, 4, 12, len(footer), len(f) - 1, len(f) + 1, len(f) + 4, len(body), len(body) + len(f), len(body) + len(f) + 1, len(body) + len(f) + 4, 1 << 31, mostAt} {
		expectNone(t, fmt.Sprint("the number ", n), join(body, f, num(n)))
	}
	lowest := num(len(f))
	slices.Reverse(lowest)
	for i, end := range [][]byte{
		join(f, lowest), join(f, num(len(f)), num(len(f))), join(footer, num(len(footer))), join(num(len(f)), f), f, footer, num(len(f)), num(0), nil,
		join(text(string(f))), join(f, f, num(len(f))), join(f, f, num(2*len(f))), join(f, num(len(f)), []byte{0}), join(framed(f), num(len(f)+head)),
		join(f, []byte{0}, num(len(f)+1)), join([]byte{0}, f, num(len(f)+1)), join(f[:8], num(0), footer, num(len(f))), join(f[:4], num(0), f[8:], num(len(f))),
	} {
		expectNone(t, fmt.Sprint("end ", i), join(body, end))
	}
}

// Blocks and footers of more bytes than a frame may have, though their sums are right.
func TestOpenOfTooLongFrames(t *testing.T) {
	for n, is := range map[int]bool{longest - 1: true, longest: true, longest + 1: false, longest + 100: false} {
		p := partsOf([][]api.Cell{filling(n)})
		x, e := table.Open(p.bytes())
		if is && (x == nil || e != api.OK) || !is && (x != nil || e != api.ErrForm) {
			t.Errorf("a block of %d bytes: %v, %d", n, x != nil, e)
		}
	}
	for n, is := range map[int]bool{2729: true, 2730: true, 2731: false, 3000: false} {
		p := partsOf(divided(thousands(n), 1))
		x, e := table.Open(p.bytes())
		if is && (x == nil || e != api.OK) || !is && (x != nil || e != api.ErrForm) {
			t.Errorf("a footer of %d bytes: %v, %d", len(p.footer()), x != nil, e)
		}
	}
}

// Cells that aren't sorted: within a block, and from one to the next.
func TestOpenOfWhatIsNotSorted(t *testing.T) {
	for _, l := range unsorted() {
		if slices.ContainsFunc(l, func(c api.Cell) bool { return c.At < 0 || c.At > mostAt }) { // it has no bytes
			continue
		}
		for _, size := range []int{1, 22, 45, 1000, math.MaxInt} {
			expectNone(t, sayAll(l), partsOf(divided(l, size)).bytes())
		}
	}
}

// All lists of up to three of a few cells, in all divisions; some of them not right.
func TestOpenOfAllLists(t *testing.T) {
	kinds := []api.Cell{
		{Row: "a", Col: "x", At: 2}, {Row: "a", Col: "x", At: 1, Gone: true}, {Row: "a", Col: "y", At: 2, Value: "v"},
		{Row: "ab", Col: "a", At: 9, Value: of(30)}, {Row: "b", Col: "x", At: 3}, {Row: "", Col: "x"}, {Row: "c", Col: "x", Value: "v", Gone: true},
	}
	var lists func(blocks [][]api.Cell, n int)
	lists = func(blocks [][]api.Cell, n int) {
		checkOpen(t, partsOf(blocks).bytes())
		if n == 3 {
			return
		}
		for _, c := range kinds {
			lists(append(slices.Clone(blocks), []api.Cell{c}), n+1)
			if last := len(blocks) - 1; last >= 0 {
				lists(append(slices.Clone(blocks[:last]), append(slices.Clone(blocks[last]), c)), n+1)
			}
		}
	}
	lists(nil, 0)
}

// Tables of which parts are changed, gone or doubled, the sums made right behind it.
func TestOpenOfMadeUpTables(t *testing.T) {
	r := rand.New(rand.NewSource(12))
	tables := 0
	for range 6000 {
		l := many()[r.Intn(150):]
		l = l[:r.Intn(8)]
		p := partsOf(divided(l, 1+r.Intn(600)))
		footer := p.footer()
		for range r.Intn(3) {
			switch n := len(p.blocks); {
			case n == 0 || r.Intn(2) == 0:
				footer = mangled(r, footer)
			case r.Intn(2) == 0:
				i := r.Intn(n)
				p.blocks[i] = framed(mangled(r, p.blocks[i][head:]))
			default:
				i, k := r.Intn(n), r.Intn(n)
				p.blocks[i], p.blocks[k] = p.blocks[k], p.blocks[i]
			}
		}
		if checkOpen(t, ended(join(p.blocks...), footer)) {
			tables++
		}
	}
	if tables < 1000 || tables > 5000 {
		t.Errorf("%d tables", tables)
	}
}

// mangled is the record with some bytes gone, put in, or changed.
func mangled(r *rand.Rand, rec []byte) []byte {
	rec = slices.Clone(rec)
	at := r.Intn(len(rec) + 1)
	end := min(at+r.Intn(40), len(rec))
	switch r.Intn(4) {
	case 0:
		return slices.Delete(rec, at, end)
	case 1:
		return slices.Insert(rec, at, make([]byte, r.Intn(20))...)
	case 2:
		return slices.Insert(rec, at, slices.Clone(rec[at:end])...)
	}
	return slices.Replace(rec, at, min(at+1, end), byte(r.Intn(4)))
}

// FuzzOpen takes the bytes as they come, as a footer, and cut in two, as a block's
// record and a footer.
func FuzzOpen(f *testing.F) {
	for _, l := range [][]api.Cell{nil, few(), few()[:1], many()[:6]} {
		for _, size := range []int{1, 45} {
			p := partsOf(divided(l, size))
			f.Add(p.bytes(), 0)
			f.Add(p.footer(), 0)
			if len(p.blocks) == 1 {
				f.Add(join(p.blocks[0][head:], p.footer()), len(p.blocks[0])-head)
			}
		}
	}
	f.Fuzz(func(t *testing.T, b []byte, at int) {
		at = max(0, min(at, len(b)))
		checkOpen(t, b)
		checkOpen(t, ended(nil, b))
		checkOpen(t, ended(framed(b[:at]), b[at:]))
	})
}

// P12.3

func TestWhatIsBuiltIsOpened(t *testing.T) {
	for _, l := range append(someSorted(), thousands(2000), rows(2000)) {
		for _, size := range someSizes() {
			b, e := table.Build(l, size)
			if e != api.OK {
				t.Fatalf("%s, size %d: %d", sayAll(l), size, e)
			}
			x := open(t, b)
			if !slices.Equal(x.Cells(), l) {
				t.Errorf("%s, size %d: %s", sayAll(l), size, sayAll(x.Cells()))
			}
			for _, c := range l {
				if !x.May(c.Row, c.Col) {
					t.Errorf("%s, size %d: %s may not be there", sayAll(l), size, say(c))
				}
				if d, ok := x.Get(c.Row, c.Col, c.At); !ok || d != c {
					t.Errorf("%s, size %d: %s, not %s", sayAll(l), size, say(d), say(c))
				}
			}
		}
	}
}

// What is opened is built as it stood, at some size.
func TestWhatIsOpenedIsBuilt(t *testing.T) {
	for _, l := range [][]api.Cell{nil, few(), many()[:9], rows(12)} {
		for _, size := range []int{1, 20, 45, 300, 1 << 20} {
			b, _ := table.Build(l, size)
			cells := open(t, b).Cells()
			if again, e := table.Build(cells, size); !bytes.Equal(again, b) || e != api.OK {
				t.Errorf("%s, size %d: %s, %d", sayAll(l), size, short(again), e)
			}
		}
	}
}

// A byte of a great table is turned, at many places: it isn't opened.
func TestTurned(t *testing.T) {
	r := rand.New(rand.NewSource(5))
	for _, l := range [][]api.Cell{many(), thousands(1000), rows(500), filling(longest)} {
		for _, size := range []int{1, 500, 1 << 20} {
			b, e := table.Build(l, size)
			if e != api.OK {
				t.Fatal(sayAll(l), size, e)
			}
			for range 60 {
				at, by := r.Intn(len(b)), byte(1+r.Intn(255))
				b[at] ^= by
				expectNone(t, fmt.Sprint("byte ", at, " turned by ", by), b)
				b[at] ^= by
			}
		}
	}
}

// P12.4

// spoil writes over all that the list has, and over the memory behind it.
func spoil(l []api.Cell) {
	l = l[:cap(l)]
	for i := range l {
		l[i] = api.Cell{Row: "other", Col: "other", At: 99, Value: "other"}
	}
}

func fill(b []byte) {
	b = b[:cap(b)]
	for i := range b {
		b[i] = 99
	}
}

// What is handed in has spare memory behind it, which isn't the call's either.
func TestCellsStay(t *testing.T) {
	spare := []api.Cell{{Row: "spare", Col: "spare", At: 1}, {Value: "spare"}}
	for _, l := range slices.Concat(someSorted(), unsorted()) {
		wide := slices.Concat(l, spare)
		want := slices.Clone(wide)
		for _, size := range []int{0, 1, 40, 1000, math.MaxInt} {
			b, _ := table.Build(wide[:len(l)], size)
			fill(b)
			if !slices.Equal(wide, want) {
				t.Errorf("%s, size %d: they, or what stands behind them, have changed", sayAll(l), size)
			}
		}
	}
}

func TestBuildIsNewMemory(t *testing.T) {
	for _, l := range someSorted() {
		for _, size := range []int{1, 40, 1000} {
			want, _ := built(l, size)
			given := slices.Clone(l)
			b, _ := table.Build(given, size)
			c, _ := table.Build(given, size)
			spoil(given)
			fill(c)
			if d, _ := table.Build(l, size); !bytes.Equal(b, want) || !bytes.Equal(d, want) {
				t.Errorf("%s, size %d: %s, and then %s", sayAll(l), size, short(b), short(d))
			}
		}
	}
}

// Neither what is a table is changed, nor what is none, nor what stands behind it.
func TestBytesStay(t *testing.T) {
	var inputs [][]byte
	for _, l := range someSorted() {
		for _, size := range []int{1, 40, 1000} {
			b, _ := built(l, size)
			inputs = append(inputs, b, b[:len(b)-1], join(b, b), append(b[:len(b)-4:len(b)-4], num(77)...))
		}
	}
	for _, b := range inputs {
		wide := join(b, []byte{41, 42, 43, 44})
		want := slices.Clone(wide)
		if x, e := table.Open(wide[:len(b)]); e == api.OK {
			spoil(x.Cells())
			x.May("a", "x")
			x.Get("a", "x", 9)
		}
		if !bytes.Equal(wide, want) {
			t.Errorf("Open changed %s", short(want))
		}
	}
}

// A table doesn't change with the bytes that it was opened from, nor with its
// answers, nor with another table of the same bytes.
func TestTablesAreOfTheirOwn(t *testing.T) {
	for _, l := range someSorted() {
		for _, size := range []int{1, 40, 1000} {
			b, _ := built(l, size)
			x, y := open(t, b), open(t, b)
			told := x.Cells()
			spoil(y.Cells())
			fill(b)
			expectTable(t, x, divided(l, size))
			expectTable(t, y, divided(l, size))
			more := x.Cells()
			spoil(more)
			_ = append(x.Cells(), api.Cell{Row: "more"})
			if !slices.Equal(told, l) || !slices.Equal(x.Cells(), l) {
				t.Errorf("%s: %s, and then %s", sayAll(l), sayAll(told), sayAll(x.Cells()))
			}
		}
	}
}

// Asking changes nothing: the same is answered in whatever order.
func TestAskingChangesNothing(t *testing.T) {
	l := many()[:60]
	b, _ := built(l, 300)
	x := open(t, b)
	for range 3 {
		expectTable(t, x, divided(l, 300))
		x.Get("nothing", "there", -5)
		x.May("", "")
	}
}

// P1: every call ends, whatever it is given.
func TestNoCallPanics(t *testing.T) {
	for _, l := range slices.Concat(someSorted(), unsorted(), [][]api.Cell{wrong()}) {
		for _, size := range []int{math.MinInt, -1, 0, 1, 100, math.MaxInt} {
			b, _ := table.Build(l, size)
			for _, part := range [][]byte{b, b[len(b)/2:], b[:len(b)/2], framed(b), join(b, num(len(b)))} {
				x, e := table.Open(part)
				if e != api.OK {
					continue
				}
				for _, s := range []string{"", "a", of(65), of(1000), "\xff"} {
					for _, at := range []int{math.MinInt, -1, 0, 9, mostAt + 1, math.MaxInt} {
						x.Get(s, "x", at)
						x.Get("a", s, at)
						x.May(s, s)
					}
				}
			}
		}
	}
}
