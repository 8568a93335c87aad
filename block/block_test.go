package block_test

import (
	"bytes"
	"encoding/binary"
	"encoding/hex"
	"fmt"
	"hash/crc32"
	"math"
	"math/rand"
	"slices"
	"sort"
	"strings"
	"testing"

	"shardlog/api"
	"shardlog/block"
)

const (
	mostAt  = 1<<32 - 1
	longest = 65535 // bytes of a record
	head    = 12    // bytes of a frame ahead of its record
)

// The words of the chapter once more, by the Go library alone.

func isRight(c api.Cell) bool {
	for _, s := range []string{c.Row, c.Col} {
		if len(s) < 1 || len(s) > 64 {
			return false
		}
	}
	if c.At < 0 || c.At > mostAt || len(c.Value) > 256 {
		return false
	}
	return !c.Gone || c.Value == ""
}

func ahead(a, b api.Cell) bool {
	if a.Row != b.Row {
		return a.Row < b.Row
	}
	if a.Col != b.Col {
		return a.Col < b.Col
	}
	return a.At > b.At
}

func isSorted(l []api.Cell) bool {
	for i, c := range l {
		if !isRight(c) || i > 0 && !ahead(l[i-1], c) {
			return false
		}
	}
	return true
}

func join(parts ...[]byte) []byte { return slices.Concat(parts...) }

func num(n int) []byte { return binary.BigEndian.AppendUint32(nil, uint32(n)) }

func text(s string) []byte { return join(num(len(s)), []byte(s)) }

// spelt is a cell's bytes, of one that isn't right too.
func spelt(c api.Cell) []byte {
	gone := []byte{0}
	if c.Gone {
		gone[0] = 1
	}
	return join(text(c.Row), text(c.Col), num(c.At), gone, text(c.Value))
}

func speltAll(l []api.Cell) []byte {
	var b []byte
	for _, c := range l {
		b = append(b, spelt(c)...)
	}
	return b
}

func sum(b []byte) []byte {
	return num(int(crc32.Checksum(b, crc32.MakeTable(crc32.Castagnoli))))
}

// framed is the frame of a record, of one that is too long too.
func framed(rec []byte) []byte {
	length := num(len(rec))
	return join(length, sum(length), sum(rec), rec)
}

// blocked is a block's bytes, of a list too of which there is no block.
func blocked(l []api.Cell) []byte {
	return framed(join(num(len(l)), speltAll(l)))
}

// ends are where the list is cut: the places behind a block's last cell. Each is
// found by how many bytes stand ahead of it, and how many ahead of the block.
func ends(l []api.Cell, size int) []int {
	var at []int
	first, end := 0, 0
	for i, c := range l {
		end += 17 + len(c.Row) + len(c.Col) + len(c.Value)
		if end-first >= size || i == len(l)-1 {
			at, first = append(at, i+1), end
		}
	}
	return at
}

// unframed is the record of the frame at the beginning, and where that ends; -1:
// there is none.
func unframed(b []byte) ([]byte, int) {
	if len(b) < head {
		return nil, -1
	}
	n := int(binary.BigEndian.Uint32(b))
	if n > longest || n > len(b)-head {
		return nil, -1
	}
	rec := b[head : head+n]
	if !bytes.Equal(b[:head+n], framed(rec)) {
		return nil, -1
	}
	return rec, head + n
}

// reader takes what a record has from its beginning on; bad: it had too little, or
// what can't be.
type reader struct {
	b   []byte
	bad bool
}

func (r *reader) take(n int) []byte {
	if r.bad || n > len(r.b) {
		r.bad = true
		return make([]byte, min(n, 4))
	}
	b := r.b[:n]
	r.b = r.b[n:]
	return b
}

func (r *reader) num() int { return int(binary.BigEndian.Uint32(r.take(4))) }

func (r *reader) text() string { return string(r.take(r.num())) }

func (r *reader) cell() api.Cell {
	c := api.Cell{Row: r.text(), Col: r.text(), At: r.num()}
	gone := r.take(1)[0]
	c.Gone, c.Value = gone == 1, r.text()
	r.bad = r.bad || gone > 1
	return c
}

// got is what a block at the beginning has, and where it ends; -1: there is none.
func got(b []byte) ([]api.Cell, int) {
	rec, end := unframed(b)
	if end < 0 {
		return nil, -1
	}
	r := reader{b: rec}
	var l []api.Cell
	for n := r.num(); n > len(l) && !r.bad; {
		l = append(l, r.cell())
	}
	if r.bad || len(r.b) > 0 || len(l) == 0 || !isSorted(l) {
		return nil, -1
	}
	return l, end
}

// Messages.

func say(c api.Cell) string {
	return fmt.Sprintf("(%.20q %.20q %d %.20q %v)", c.Row, c.Col, c.At, c.Value, c.Gone)
}

// sayAll is some of them: all would fill the screen.
func sayAll(l []api.Cell) string {
	var b strings.Builder
	fmt.Fprintf(&b, "%d cells ", len(l))
	for _, c := range l[:min(len(l), 6)] {
		b.WriteString(say(c))
	}
	return b.String()
}

func short(b []byte) string {
	if len(b) > 60 {
		return fmt.Sprint(len(b), " bytes ", hex.EncodeToString(b[:60]), "..")
	}
	return hex.EncodeToString(b)
}

// Cells and bytes that the tests share.

func of(n int) string { return strings.Repeat("n", n) }

// many are cells of all edges, in order.
func many() []api.Cell {
	var l []api.Cell
	for _, row := range []string{"a", "a\x00", "aa", "ab", "b", "\x00", "\xff\xfe", "gr\u00fc\u00df", of(64)} {
		for _, col := range []string{"a", "b", "\xff", of(64)} {
			for i, at := range []int{mostAt, 1 << 31, 256, 7, 0} {
				c := api.Cell{Row: row, Col: col, At: at, Value: of([]int{0, 256, 1, 255, 20}[i])}
				if i == 0 && col != "b" {
					c.Gone = true
				}
				l = append(l, c)
			}
		}
	}
	sort.Slice(l, func(i, j int) bool { return ahead(l[i], l[j]) })
	return l
}

// few are cells of 22 bytes each, but for the last ones of 19, 401 and 24.
func few() []api.Cell {
	var l []api.Cell
	for _, s := range []string{"a", "b", "c", "d", "e"} {
		l = append(l, api.Cell{Row: s, Col: "x", Value: s + s + s})
	}
	return append(l, api.Cell{Row: "f", Col: "x", At: 3, Gone: true},
		api.Cell{Row: of(64), Col: of(64), At: mostAt, Value: strings.Repeat("v", 256)},
		api.Cell{Row: "z", Col: "x", At: 9, Value: "zzzzz"})
}

// thousands are cells of 19 bytes each, the least that one has.
func thousands(n int) []api.Cell {
	var l []api.Cell
	for i := range n {
		l = append(l, api.Cell{Row: "r", Col: "c", At: n - i, Gone: i%2 == 0})
	}
	return l
}

// filling is a sorted list whose record has just n bytes: 4, and those of cells
// of 100 and more.
func filling(n int) []api.Cell {
	left := n - 4
	var l []api.Cell
	for i := 1 << 20; left > 0; i-- {
		long := 100
		if left < 200 {
			long = left
		}
		l = append(l, api.Cell{Row: "r", Col: "c", At: i, Value: of(long - 19)})
		left -= long
	}
	return l
}

// someSorted are lists in order, one cell at least in each.
func someSorted() [][]api.Cell {
	l := [][]api.Cell{
		few(), few()[:1], few()[5:6], few()[6:7], few()[6:], many(), many()[:1], many()[:40], many()[77:100], thousands(300), thousands(3449),
		{{Row: "a", Col: "x", At: 9, Value: "9"}, {Row: "a", Col: "x", At: 3, Value: "3"}}, {{Row: "a", Col: "bc"}, {Row: "ab", Col: "c"}},
		{{Row: "a", Col: "x", At: 1}, {Row: "a", Col: "x", Gone: true}, {Row: "a", Col: "y"}}, filling(longest), filling(longest - 1), filling(500),
	}
	for n := range 12 {
		l = append(l, many()[n*10:n*11+1])
	}
	return l
}

// wrong are cells that aren't right, in one thing alone each, but for the last.
func wrong() []api.Cell {
	return []api.Cell{
		{Col: "x"}, {Row: "a"}, {Row: of(65), Col: "x"}, {Row: "a", Col: of(65)}, {Row: "a", Col: "x", At: -1}, {Row: "a", Col: "x", At: mostAt + 1},
		{Row: "a", Col: "x", At: math.MinInt}, {Row: "a", Col: "x", At: math.MaxInt}, {Row: "a", Col: "x", Value: of(257)},
		{Row: "a", Col: "x", Value: of(1 << 16)}, {Row: "a", Col: "x", Value: "v", Gone: true}, {},
	}
}

// unsorted are lists of which nothing is cut or put: cells that aren't in order,
// twice the same key, cells that aren't right.
func unsorted() [][]api.Cell {
	a := api.Cell{Row: "a", Col: "x", At: 5, Value: "v"}
	other := a
	other.Value = "w"
	gone := api.Cell{Row: "a", Col: "x", At: 5, Gone: true}
	l := [][]api.Cell{
		{a, a}, {a, other}, {gone, a}, {a, gone}, {few()[1], few()[0]}, {few()[0], few()[2], few()[1]},
		{{Row: "a", Col: "x", At: 3}, {Row: "a", Col: "x", At: 9}}, {{Row: "a", Col: "y", At: 9}, {Row: "a", Col: "x", At: 3}},
		{{Row: "a", Col: "x"}, {Row: "Z", Col: "x"}}, {{Row: "\x80", Col: "x"}, {Row: "a", Col: "x"}},
	}
	for _, c := range wrong() {
		behind := api.Cell{Row: "\xff", Col: "\xff"}
		l = append(l, []api.Cell{c}, []api.Cell{c, behind}, append(many(), c))
	}
	back := many()
	slices.Reverse(back)
	twice := slices.Insert(many(), 50, many()[49])
	late := append(thousands(3000), api.Cell{Row: "a", Col: "x"})
	return append(l, back, twice, late, append(many(), many()[0]))
}

// tails stand behind a block; some look like one, or like more of it.
func tails() [][]byte {
	return [][]byte{
		nil, {0}, {7, 8}, make([]byte, 11), make([]byte, 12), make([]byte, 40), bytes.Repeat([]byte{0xff}, 100), framed(nil),
		spelt(few()[0]), blocked(few()), blocked(few())[:30], join(blocked(few()[:1]), blocked(few()[1:2])),
	}
}

func same(a, b [][]api.Cell) bool { return slices.EqualFunc(a, b, slices.Equal) }

// P10.1

func expectCut(t *testing.T, l []api.Cell, size int) {
	t.Helper()
	var want [][]api.Cell
	first := 0
	for _, end := range ends(l, size) {
		want = append(want, l[first:end])
		first = end
	}
	if blocks, e := block.Cut(l, size); e != api.OK || !same(blocks, want) {
		t.Errorf("Cut of %s, size %d: %d blocks, %d, want %d", sayAll(l), size, len(blocks), e, len(want))
	}
}

func TestCutByTheLetter(t *testing.T) {
	for _, c := range []struct {
		size int
		want []int
	}{
		// the chapter's example: each cell alone
		{1, []int{1, 2, 3, 4, 5, 6, 7, 8}}, {2, []int{1, 2, 3, 4, 5, 6, 7, 8}}, {19, []int{1, 2, 3, 4, 5, 6, 7, 8}},
		{20, []int{1, 2, 3, 4, 5, 7, 8}}, {22, []int{1, 2, 3, 4, 5, 7, 8}}, {23, []int{2, 4, 6, 7, 8}}, {41, []int{2, 4, 6, 7, 8}},
		{42, []int{2, 4, 7, 8}}, {44, []int{2, 4, 7, 8}}, {45, []int{3, 6, 7, 8}}, {63, []int{3, 6, 7, 8}}, {64, []int{3, 7, 8}},
		{110, []int{5, 7, 8}}, {111, []int{6, 7, 8}}, {129, []int{6, 7, 8}}, {130, []int{7, 8}}, {530, []int{7, 8}}, {531, []int{8}},
		{553, []int{8}}, {554, []int{8}}, {555, []int{8}}, {1 << 20, []int{8}}, {math.MaxInt, []int{8}},
	} {
		blocks, e := block.Cut(few(), c.size)
		var at []int
		var l []api.Cell
		for _, b := range blocks {
			l = append(l, b...)
			at = append(at, len(l))
		}
		if e != api.OK || !slices.Equal(at, c.want) || !slices.Equal(l, few()) {
			t.Errorf("size %d: cut behind %v, %d, want %v", c.size, at, e, c.want)
		}
	}
}

func TestCutOfOne(t *testing.T) {
	for _, c := range slices.Concat(few(), many()) {
		for _, size := range []int{1, len(spelt(c)) - 1, len(spelt(c)), len(spelt(c)) + 1, math.MaxInt} {
			if blocks, e := block.Cut([]api.Cell{c}, size); e != api.OK || !same(blocks, [][]api.Cell{{c}}) {
				t.Errorf("Cut of %s, size %d: %v, %d", say(c), size, blocks, e)
			}
		}
	}
}

// Of no cells there is nothing left for a last block.
func TestCutOfNone(t *testing.T) {
	for _, l := range [][]api.Cell{nil, {}} {
		for _, size := range []int{1, 2, 100, math.MaxInt} {
			if blocks, e := block.Cut(l, size); len(blocks) != 0 || e != api.OK {
				t.Errorf("size %d: %v, %d", size, blocks, e)
			}
		}
	}
}

func TestCut(t *testing.T) {
	for _, l := range someSorted() {
		all := len(speltAll(l))
		for _, size := range []int{1, 18, 19, 20, 37, 38, 39, 57, 99, 100, 101, 200, 400, 401, 402, 1000, 4096, all / 2, all - 1, all, all + 1, all + 4, all + 12, 1 << 31, math.MaxInt} {
			if size > 0 {
				expectCut(t, l, size)
			}
		}
	}
}

// Each size up to one that all cells are too few for.
func TestCutOfAllSizes(t *testing.T) {
	for _, l := range [][]api.Cell{few(), many()[:9], many()[60:67], thousands(20)} {
		for size := 1; size < len(speltAll(l))+3; size++ {
			expectCut(t, l, size)
		}
	}
}

// Cells of two sizes, in all orders of them.
func TestCutOfAllOrders(t *testing.T) {
	for set := range 1 << 7 {
		var l []api.Cell
		for i := range 7 {
			l = append(l, api.Cell{Row: "a", Col: "x", At: 9 - i, Value: of(3 * (set >> i & 1))})
		}
		for size := 1; size < 160; size++ {
			expectCut(t, l, size)
		}
	}
}

// More than a frame may have is cut nonetheless: only Put asks that.
func TestCutOfGreatBlocks(t *testing.T) {
	for _, l := range [][]api.Cell{filling(longest + 1), thousands(3450), thousands(9000)} {
		for _, size := range []int{longest + 1, 1 << 20} {
			expectCut(t, l, size)
		}
	}
}

func TestCutOfWrongSizes(t *testing.T) {
	for _, size := range []int{0, -1, -2, -22, -1 << 31, -1 << 32, math.MinInt, math.MinInt + 1} {
		for _, l := range append(someSorted(), nil, []api.Cell{}, unsorted()[0]) {
			if blocks, e := block.Cut(l, size); len(blocks) != 0 || e != api.ErrArg {
				t.Errorf("%s, size %d: %d blocks, %d", sayAll(l), size, len(blocks), e)
			}
		}
	}
}

func TestCutOfWhatIsNotSorted(t *testing.T) {
	for _, l := range unsorted() {
		for _, size := range []int{1, 22, 1000, math.MaxInt} {
			if blocks, e := block.Cut(l, size); len(blocks) != 0 || e != api.ErrArg {
				t.Errorf("%s, size %d: %d blocks, %d", sayAll(l), size, len(blocks), e)
			}
		}
	}
}

func TestPutByTheLetter(t *testing.T) {
	rec := "00000002" + "0000000161" + "0000000178" + "00000009" + "00" + "0000000176" + "0000000161" + "0000000178" + "00000003" + "01" + "00000000"
	want := "0000002b" + "f1536e22" + "276f0384" + rec
	b, e := block.Put([]api.Cell{{Row: "a", Col: "x", At: 9, Value: "v"}, {Row: "a", Col: "x", At: 3, Gone: true}})
	if hex.EncodeToString(b) != want || e != api.OK {
		t.Errorf("%x, %d, want %s", b, e, want)
	}
}

func TestPut(t *testing.T) {
	for _, l := range someSorted() {
		if b, e := block.Put(l); !bytes.Equal(b, blocked(l)) || e != api.OK {
			t.Errorf("Put of %s: %s, %d", sayAll(l), short(b), e)
		}
	}
}

func TestPutOfNone(t *testing.T) {
	for _, l := range [][]api.Cell{nil, {}} {
		if b, e := block.Put(l); len(b) != 0 || e != api.ErrArg {
			t.Error(short(b), e)
		}
	}
}

func TestPutOfWhatIsNotSorted(t *testing.T) {
	for _, l := range unsorted() {
		if b, e := block.Put(l); len(b) != 0 || e != api.ErrArg {
			t.Errorf("%s: %s, %d", sayAll(l), short(b), e)
		}
	}
}

// A frame has at most 65535 bytes: those of the number too.
func TestPutOfTheLongest(t *testing.T) {
	for _, n := range []int{longest - 12, longest - 4, longest - 1, longest, longest + 1, longest + 4, longest + 5, longest + 12, longest + 13, 1 << 17, 1 << 18} {
		l := filling(n)
		if len(speltAll(l)) != n-4 || !isSorted(l) {
			t.Fatalf("%d: %d bytes", n, len(speltAll(l)))
		}
		b, e := block.Put(l)
		if n <= longest && (e != api.OK || !bytes.Equal(b, blocked(l))) || n > longest && (e != api.ErrArg || len(b) != 0) {
			t.Errorf("%d bytes: %s, %d", n, short(b), e)
		}
	}
	for n, want := range map[int]api.Errno{3449: api.OK, 3450: api.ErrArg, 20000: api.ErrArg} {
		if b, e := block.Put(thousands(n)); e != want || (len(b) == 0) != (e != api.OK) {
			t.Errorf("%d cells: %s, %d", n, short(b), e)
		}
	}
}

// P10.2

// checkGet holds Get against the words, whatever the bytes are.
func checkGet(t *testing.T, b []byte) {
	t.Helper()
	l, rest, e := block.Get(b)
	want, end := got(b)
	if end < 0 {
		if len(l) != 0 || len(rest) != 0 || e != api.ErrForm {
			t.Errorf("Get(%s) = %s, %s, %d", short(b), sayAll(l), short(rest), e)
		}
		return
	}
	if !slices.Equal(l, want) || !bytes.Equal(rest, b[end:]) || e != api.OK {
		t.Errorf("Get(%s) = %s, %s, %d, want %s", short(b), sayAll(l), short(rest), e, sayAll(want))
	}
}

// expectNone asks of bytes that the tests know to be no block.
func expectNone(t *testing.T, what string, b []byte) {
	t.Helper()
	for _, tail := range tails() {
		l, rest, e := block.Get(join(b, tail))
		if len(l) != 0 || len(rest) != 0 || e != api.ErrForm {
			t.Errorf("%s: Get(%s) = %s, %s, %d", what, short(b), sayAll(l), short(rest), e)
		}
	}
}

func TestGetByTheLetter(t *testing.T) {
	b, err := hex.DecodeString("0000002bf1536e22276f038400000002" + "0000000161000000017800000009000000000176" + "00000001610000000178000000030100000000" + "0708")
	l, rest, e := block.Get(b)
	if !slices.Equal(l, []api.Cell{{Row: "a", Col: "x", At: 9, Value: "v"}, {Row: "a", Col: "x", At: 3, Gone: true}}) || !bytes.Equal(rest, []byte{7, 8}) || e != api.OK || err != nil {
		t.Error(sayAll(l), rest, e, err)
	}
}

func TestGet(t *testing.T) {
	for _, tail := range tails() {
		checkGet(t, tail)
		for _, l := range someSorted() {
			checkGet(t, join(blocked(l), tail))
		}
	}
}

func TestGetOfBeginnings(t *testing.T) {
	for _, l := range [][]api.Cell{few(), few()[:1], few()[5:6], many()[:4]} {
		b := blocked(l)
		for n := range b {
			if m, rest, e := block.Get(b[:n]); len(m) != 0 || len(rest) != 0 || e != api.ErrForm {
				t.Errorf("the first %d of %d bytes: %s, %s, %d", n, len(b), sayAll(m), short(rest), e)
			}
		}
	}
}

// Records with right sums that are no block's.
func TestGetOfNoBlocks(t *testing.T) {
	cells := speltAll(few())
	for _, n := range []int{0, 1, 7, 9, 10, 255, 256, 1 << 16, 8 << 24, 1<<31 - 1, 1 << 31, 1<<31 + 8, mostAt} {
		expectNone(t, "another number", framed(join(num(n), cells)))
	}
	expectNone(t, "no bytes", framed(nil))
	for n := range 4 {
		expectNone(t, "no number", framed(make([]byte, n)))
		expectNone(t, "no number", framed(num(1)[:n]))
	}
	for _, n := range []int{0, 1, 2, 1 << 31, mostAt} {
		expectNone(t, "no cells", framed(num(n)))
	}
	expectNone(t, "no number ahead", framed(cells))
	expectNone(t, "the number behind", framed(join(cells, num(8))))
	expectNone(t, "the number twice", framed(join(num(8), num(8), cells)))
	expectNone(t, "the lowest byte first", framed(join([]byte{8, 0, 0, 0}, cells)))
	for _, more := range [][]byte{{0}, {1}, make([]byte, 4), make([]byte, 19), spelt(few()[7]), spelt(api.Cell{Row: "zz", Col: "x"}), cells} {
		expectNone(t, "more bytes", framed(join(num(8), cells, more)))
		expectNone(t, "more bytes behind none", framed(join(num(0), more)))
	}
	for n := range cells {
		expectNone(t, "fewer bytes", framed(join(num(8), cells[:n])))
		expectNone(t, "fewer bytes ahead", framed(join(num(8), cells[n+1:])))
	}
}

func TestGetOfWhatIsNotSorted(t *testing.T) {
	for _, l := range unsorted() {
		if !slices.ContainsFunc(l, func(c api.Cell) bool { return c.At < 0 || c.At > mostAt }) { // else it has no bytes
			expectNone(t, sayAll(l), blocked(l))
		}
	}
}

// All lists of up to four of a few cells, some of them not right.
func TestGetOfAllLists(t *testing.T) {
	kinds := []api.Cell{
		{Row: "a", Col: "x", At: 2}, {Row: "a", Col: "x", At: 1, Gone: true}, {Row: "a", Col: "y", At: 2, Value: "v"},
		{Row: "ab", Col: "a", At: 9}, {Row: "b", Col: "x", At: 3}, {Row: "", Col: "x"}, {Row: "c", Col: "x", Value: "v", Gone: true},
	}
	var lists func(l []api.Cell)
	lists = func(l []api.Cell) {
		is := len(l) > 0 && isSorted(l)
		b, e := block.Put(l)
		if is && (e != api.OK || !bytes.Equal(b, blocked(l))) || !is && (e != api.ErrArg || len(b) != 0) {
			t.Errorf("Put of %s: %s, %d", sayAll(l), short(b), e)
		}
		m, _, e := block.Get(blocked(l))
		if is && (e != api.OK || !slices.Equal(m, l)) || !is && (e != api.ErrForm || len(m) != 0) {
			t.Errorf("Get of %s: %s, %d", sayAll(l), sayAll(m), e)
		}
		if len(l) == 4 {
			return
		}
		for _, c := range kinds {
			lists(append(slices.Clone(l), c))
		}
	}
	lists(nil)
}

// Frames that are none: other sums, or more than a frame may have.
func TestGetOfNoFrames(t *testing.T) {
	rec := join(num(8), speltAll(few()))
	length := num(len(rec))
	for i, b := range [][]byte{
		rec, join(length, rec), join(length, sum(length), rec), join(length, sum(rec), sum(length), rec), join(length, sum(rec), sum(rec), rec),
		join(length, num(0), num(0), rec), join(length, sum(length), sum(rec[4:]), rec), join(framed(length), rec), framed(framed(rec)),
	} {
		expectNone(t, fmt.Sprint("no frame ", i), b)
	}
	for _, l := range [][]api.Cell{filling(longest + 1), thousands(3450), filling(1 << 17)} {
		expectNone(t, "too long", blocked(l))
	}
}

// Each byte of a block, changed to whatever else: it is no block.
func TestGetOfTurnedBytes(t *testing.T) {
	b := blocked(few()[:3])
	for at := range b {
		for v := range 256 {
			turned := slices.Clone(b)
			turned[at] = byte(v)
			if m, rest, e := block.Get(turned); v != int(b[at]) && (len(m) != 0 || len(rest) != 0 || e != api.ErrForm) {
				t.Errorf("byte %d is %d: %s, %d", at, v, sayAll(m), e)
			}
		}
	}
}

// Each byte of a record, changed ahead of its sums: some are blocks.
func TestGetOfChangedRecords(t *testing.T) {
	for _, l := range [][]api.Cell{few()[:3], few()[4:7], {few()[5]}, many()[:2]} {
		rec := join(num(len(l)), speltAll(l))
		for at := range rec {
			for v := range 256 {
				changed := slices.Clone(rec)
				changed[at] = byte(v)
				checkGet(t, join(framed(changed), []byte{7}))
			}
		}
	}
}

// Records of whatever bytes, and of cells of which some are changed, or gone.
func TestGetOfMadeUpRecords(t *testing.T) {
	r := rand.New(rand.NewSource(10))
	for range 20000 {
		l := many()[r.Intn(100):]
		l = l[:r.Intn(6)]
		rec := join(num(len(l)), speltAll(l))
		for range r.Intn(3) {
			at := r.Intn(len(rec) + 1)
			end := min(at+r.Intn(40), len(rec))
			switch r.Intn(3) {
			case 0:
				rec = slices.Delete(rec, at, end)
			case 1:
				rec = slices.Insert(rec, at, make([]byte, r.Intn(20))...)
			case 2:
				rec = slices.Replace(rec, at, min(at+1, end), byte(r.Intn(4)))
			}
		}
		checkGet(t, framed(rec))
	}
}

// FuzzGet takes the bytes as they come, and as a record.
func FuzzGet(f *testing.F) {
	for _, l := range [][]api.Cell{few(), few()[:1], many()[:10], unsorted()[0], unsorted()[4]} {
		f.Add(blocked(l))
		f.Add(join(num(len(l)), speltAll(l)))
	}
	f.Fuzz(func(t *testing.T, b []byte) {
		checkGet(t, b)
		checkGet(t, framed(b))
	})
}

// P10.3

func TestWhatIsPutIsGot(t *testing.T) {
	for _, l := range someSorted() {
		b, e := block.Put(l)
		if e != api.OK {
			t.Fatalf("Put of %s: %d", sayAll(l), e)
		}
		for _, tail := range tails() {
			m, rest, e := block.Get(join(b, tail))
			if !slices.Equal(m, l) || !bytes.Equal(rest, tail) || e != api.OK {
				t.Errorf("%s ahead of %s: %s, %s, %d", sayAll(l), short(tail), sayAll(m), short(rest), e)
			}
		}
	}
}

// What is got is put as it stood.
func TestWhatIsGotIsPut(t *testing.T) {
	for _, l := range someSorted() {
		m, _, e := block.Get(blocked(l))
		if b, f := block.Put(m); !bytes.Equal(b, blocked(l)) || e != api.OK || f != api.OK {
			t.Errorf("%s: %s, %d, %d", sayAll(l), short(b), e, f)
		}
	}
}

// Cells are cut, their blocks put one behind the other, and got one by one.
func TestBlocksAreTheCells(t *testing.T) {
	for _, l := range append(someSorted(), nil, thousands(9000), filling(1<<17)) {
		for _, size := range []int{1, 20, 23, 100, 401, 1000, 4096, 1 << 15} {
			if size < 1000 && len(l) > 1000 {
				continue // each Get answers all that is left: it takes long
			}
			blocks, e := block.Cut(l, size)
			var b []byte
			for _, cells := range blocks {
				put, f := block.Put(cells)
				b = append(b, put...)
				e = max(e, f)
			}
			var all []api.Cell
			n := 0
			for ; len(b) > 0 && e == api.OK; n++ {
				var m []api.Cell
				m, b, e = block.Get(b)
				all = append(all, m...)
			}
			if !slices.Equal(all, l) || n != len(blocks) || e != api.OK {
				t.Errorf("%s, size %d: %d blocks of %d, %s, %d", sayAll(l), size, n, len(blocks), sayAll(all), e)
			}
		}
	}
}

// P10.4

// spoil writes over all that the list has, and over the memory behind it.
func spoil(l []api.Cell) {
	l = l[:cap(l)]
	for i := range l {
		l[i] = api.Cell{Row: "other", Col: "other", At: 99, Value: "other"}
	}
}

func fill(b []byte) {
	b = b[:cap(b)]
	for i := range b {
		b[i] = 99
	}
}

func cloned(l [][]api.Cell) [][]api.Cell {
	var c [][]api.Cell
	for _, x := range l {
		c = append(c, slices.Clone(x))
	}
	return c
}

// What is handed in has spare memory behind it, which isn't the calls' either.
func TestCellsStay(t *testing.T) {
	spare := []api.Cell{{Row: "spare", Col: "spare", At: 1}, {Value: "spare"}}
	for _, l := range slices.Concat(someSorted(), unsorted(), [][]api.Cell{nil}) {
		wide := slices.Concat(l, spare)
		want := slices.Clone(wide)
		for _, size := range []int{0, 1, 40, 1000, math.MaxInt} {
			blocks, _ := block.Cut(wide[:len(l)], size)
			for _, b := range blocks {
				spoil(b)
				_ = append(b, api.Cell{Row: "more"})
			}
		}
		b, _ := block.Put(wide[:len(l)])
		fill(b)
		if !slices.Equal(wide, want) {
			t.Errorf("%s, or what stands behind it, has changed", sayAll(l))
		}
	}
}

func TestBlocksAreOfTheirOwn(t *testing.T) {
	for _, l := range someSorted() {
		for _, size := range []int{1, 40, 1000, math.MaxInt} {
			for seed := range 3 {
				given := slices.Clone(l)
				blocks, _ := block.Cut(given, size)
				want := cloned(blocks)
				spoil(given)
				if !same(blocks, want) {
					t.Fatalf("%s, size %d: changed with what was handed in", sayAll(l), size)
				}
				i := rand.New(rand.NewSource(int64(seed))).Intn(len(blocks))
				spoil(blocks[i])
				blocks[i] = want[i]
				if !same(blocks, want) {
					t.Fatalf("%s, size %d: blocks changed with block %d", sayAll(l), size, i)
				}
			}
		}
	}
}

func TestPutIsNewMemory(t *testing.T) {
	for _, l := range someSorted() {
		given := slices.Clone(l)
		b, _ := block.Put(given)
		c, _ := block.Put(given)
		spoil(given)
		fill(c)
		if !bytes.Equal(b, blocked(l)) {
			t.Errorf("%s: %s", sayAll(l), short(b))
		}
		if d, _ := block.Put(l); !bytes.Equal(d, blocked(l)) {
			t.Errorf("%s: %s behind a change of an answer", sayAll(l), short(d))
		}
	}
}

// getInputs are such as hold a block and such as don't.
func getInputs() [][]byte {
	l := tails()
	for _, cells := range slices.Concat(someSorted(), unsorted()[:8]) {
		for _, tail := range tails() {
			l = append(l, join(blocked(cells), tail))
		}
	}
	return l
}

func TestBytesStay(t *testing.T) {
	for _, b := range getInputs() {
		wide := join(b, []byte{41, 42, 43, 44})
		want := slices.Clone(wide)
		l, rest, _ := block.Get(wide[:len(b)])
		fill(rest)
		_ = append(rest, 98, 97)
		spoil(l)
		if !bytes.Equal(wide, want) {
			t.Errorf("Get changed %s, or shares its memory", short(b))
		}
	}
}

func TestGetIsNewMemory(t *testing.T) {
	for _, b := range getInputs() {
		l, rest, _ := block.Get(b)
		m, other, _ := block.Get(b)
		want, left := slices.Clone(l), slices.Clone(rest)
		spoil(m)
		fill(other)
		told := speltAll(l)
		fill(b)
		if !slices.Equal(l, want) || !bytes.Equal(told, speltAll(l)) || !bytes.Equal(rest, left) {
			t.Errorf("what was answered changed: %s", sayAll(want))
		}
	}
}

// P1: every call ends, whatever it is given.
func TestNoCallPanics(t *testing.T) {
	for _, l := range slices.Concat(someSorted(), unsorted(), [][]api.Cell{nil, {}, wrong()}) {
		block.Put(l)
		for _, size := range []int{math.MinInt, -1, 0, 1, 100, math.MaxInt} {
			block.Cut(l, size)
		}
	}
	for _, b := range getInputs() {
		block.Get(b)
		block.Get(framed(b))
		block.Get(b[len(b)/2:])
	}
}
