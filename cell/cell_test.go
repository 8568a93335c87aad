package cell_test

import (
	"bytes"
	"encoding/binary"
	"encoding/hex"
	"fmt"
	"math"
	"math/rand"
	"slices"
	"sort"
	"strings"
	"testing"

	"shardlog/api"
	"shardlog/cell"
)

const (
	mostAt   = 1<<32 - 1
	mostText = 64
	mostLong = 256
)

// The words of the chapter once more, by the Go library alone.

func isRight(c api.Cell) bool {
	for _, s := range []string{c.Row, c.Col} {
		if len(s) == 0 || len(s) > mostText {
			return false
		}
	}
	if c.At < 0 || c.At > mostAt || len(c.Value) > mostLong {
		return false
	}
	return !c.Gone || len(c.Value) == 0
}

// texts tells which text is ahead, byte by byte.
func texts(a, b string) int {
	for i := range min(len(a), len(b)) {
		if a[i] < b[i] {
			return -1
		}
		if a[i] > b[i] {
			return 1
		}
	}
	if len(a) < len(b) {
		return -1
	}
	if len(a) > len(b) {
		return 1
	}
	return 0
}

func stand(a, b api.Cell) int {
	if n := texts(a.Row, b.Row); n != 0 {
		return n
	}
	if n := texts(a.Col, b.Col); n != 0 {
		return n
	}
	if a.At > b.At {
		return -1
	}
	if a.At < b.At {
		return 1
	}
	return 0
}

// isSorted holds each against all behind it, not against the next one alone.
func isSorted(l []api.Cell) bool {
	for i, c := range l {
		if !isRight(c) {
			return false
		}
		for _, d := range l[i+1:] {
			if stand(c, d) != -1 {
				return false
			}
		}
	}
	return true
}

func newest(l []api.Cell, row, col string, at int) (api.Cell, bool) {
	for _, c := range l {
		if c.Row == row && c.Col == col && c.At <= at {
			return c, true
		}
	}
	return api.Cell{}, false
}

func num(n int) []byte { return binary.BigEndian.AppendUint32(nil, uint32(n)) }

func text(s string) []byte { return append(num(len(s)), s...) }

// spelt is a cell's bytes, of one that isn't right too.
func spelt(c api.Cell) []byte {
	gone := []byte{0}
	if c.Gone {
		gone[0] = 1
	}
	return join(text(c.Row), text(c.Col), num(c.At), gone, text(c.Value))
}

// whole tells by counting alone how many bytes the cell at the beginning has;
// -1: there is none.
func whole(b []byte) int {
	at := 0
	long := func(least, most int) (int, bool) {
		if len(b)-at < 4 {
			return 0, false
		}
		n := int(binary.BigEndian.Uint32(b[at:]))
		if n < least || n > most || n > len(b)-at-4 {
			return 0, false
		}
		at += 4 + n
		return n, true
	}
	for range 2 {
		if _, ok := long(1, mostText); !ok {
			return -1
		}
	}
	if len(b)-at < 5 || b[at+4] > 1 {
		return -1
	}
	most := mostLong
	if b[at+4] == 1 {
		most = 0
	}
	at += 5
	if _, ok := long(0, most); !ok {
		return -1
	}
	return at
}

// say is a cell in a message.
func say(c api.Cell) string {
	return fmt.Sprintf("(%.70q %.70q %d %.70q %v)", c.Row, c.Col, c.At, c.Value, c.Gone)
}

func sayAll(l []api.Cell) string {
	var b strings.Builder
	for _, c := range l {
		b.WriteString(say(c))
	}
	return b.String()
}

func join(parts ...[]byte) []byte { return slices.Concat(parts...) }

func of(n int) string { return strings.Repeat("n", n) }

// short is bytes in a message: the longest would fill the screen.
func short(b []byte) string {
	if len(b) > 60 {
		return hex.EncodeToString(b[:60]) + ".."
	}
	return hex.EncodeToString(b)
}

// names are ordinary ones, those that stand close to each other, and those at
// the edges, in order by the Go library.
func names() []string {
	l := []string{
		"a", "aa", "ab", "b", "A", "Z", "z", "\x00", "\x00\x00", "\x01", "a\x00", "a\x00a", "a\xff", "\x7f", "\x80", "\xff", "\xff\xff",
		"gr\u00fc\u00df", "\uffff", "\U00010000", of(63), of(64), strings.Repeat("\x00", 64), strings.Repeat("\xff", 64),
		strings.Repeat("\u00e9", 32), of(63) + "o", "\x00\x00\x00\x01", "\x00\x00\x00\x01a",
	}
	sort.Strings(l)
	return l
}

// noNames are the one without bytes, and those that are too long: also such as have
// too many bytes, but few enough letters.
func noNames() []string {
	return []string{"", of(65), of(66), of(128), of(256), of(320), of(1 << 16), strings.Repeat("\u00e9", 33), strings.Repeat("\x00", 65)}
}

func times() []int {
	return []int{0, 1, 2, 3, 255, 256, 1 << 16, 1 << 24, 1<<31 - 1, 1 << 31, mostAt - 1, mostAt}
}

func noTimes() []int {
	return []int{-1, -2, -256, -1 << 31, -1 << 32, math.MinInt, math.MinInt + 1, mostAt + 1, mostAt + 2, 1 << 33, 1 << 40, math.MaxInt}
}

func values() []string {
	return []string{"", "v", "\x00", "\xff\xfe", "gr\u00fc\u00df", strings.Repeat("v", 255), strings.Repeat("v", 256), strings.Repeat("\x00", 256), strings.Repeat("\u00e9", 128)}
}

func noValues() []string {
	return []string{strings.Repeat("v", 257), strings.Repeat("v", 258), strings.Repeat("v", 512), strings.Repeat("v", 1<<16), strings.Repeat("\u00e9", 129)}
}

// someRight are right cells of all edges, each with each other's.
func someRight() []api.Cell {
	var l []api.Cell
	for _, row := range []string{"a", "\x00", "gr\u00fc\u00df", of(64)} {
		for _, col := range []string{"x", "\xff", of(64)} {
			for _, at := range times() {
				for _, v := range values() {
					l = append(l, api.Cell{Row: row, Col: col, At: at, Value: v})
				}
				l = append(l, api.Cell{Row: row, Col: col, At: at, Gone: true})
			}
		}
	}
	for _, name := range names() {
		l = append(l, api.Cell{Row: name, Col: "x", At: 1, Value: "v"}, api.Cell{Row: "a", Col: name, Gone: true})
	}
	return l
}

// someWrong are wrong in one thing alone each, but for the last ones.
func someWrong() []api.Cell {
	var l []api.Cell
	for _, name := range noNames() {
		l = append(l, api.Cell{Row: name, Col: "x", At: 1, Value: "v"}, api.Cell{Row: "a", Col: name, At: 1, Value: "v"}, api.Cell{Row: name, Col: "x", Gone: true})
	}
	for _, at := range noTimes() {
		l = append(l, api.Cell{Row: "a", Col: "x", At: at, Value: "v"}, api.Cell{Row: "a", Col: "x", At: at, Gone: true})
	}
	for _, v := range noValues() {
		l = append(l, api.Cell{Row: "a", Col: "x", At: 1, Value: v})
	}
	for _, v := range append(values()[1:], noValues()...) {
		l = append(l, api.Cell{Row: "a", Col: "x", At: 1, Value: v, Gone: true})
	}
	return append(l, api.Cell{}, api.Cell{Gone: true}, api.Cell{Value: "v"})
}

// someKeys are cells of all kinds of keys, right or not.
func someKeys() []api.Cell {
	var l []api.Cell
	for _, row := range []string{"", "a", "aa", "ab", "b", "\x00", "a\x00", "\x80", "\uffff", "\U00010000", of(65)} {
		for _, col := range []string{"", "a", "b", "ab", "\xff"} {
			for _, at := range []int{math.MinInt, -1, 0, 1, 7, mostAt, math.MaxInt} {
				l = append(l, api.Cell{Row: row, Col: col, At: at})
			}
		}
	}
	return l
}

// shuffled is the same cells in some other order, always the same one.
func shuffled(l []api.Cell, seed int64) []api.Cell {
	c := slices.Clone(l)
	rand.New(rand.NewSource(seed)).Shuffle(len(c), func(i, j int) { c[i], c[j] = c[j], c[i] })
	return c
}

// someSorted are lists in order, by the letter and by names and times.
func someSorted() [][]api.Cell {
	long := []api.Cell{}
	for _, row := range names() {
		for _, col := range []string{"a", "b", "ba"} {
			for _, at := range []int{mostAt, 100, 7, 3, 0} {
				long = append(long, api.Cell{Row: row, Col: col, At: at, Value: "v"})
			}
		}
	}
	l := [][]api.Cell{
		nil, {}, {{Row: "a", Col: "x", At: 3, Gone: true}},
		{{Row: "a", Col: "x", At: 9, Value: "9"}, {Row: "a", Col: "x", At: 3, Value: "3"}},
		{{Row: "a", Col: "x", At: 9}, {Row: "a", Col: "x", At: 8, Gone: true}, {Row: "a", Col: "x"}, {Row: "a", Col: "y", At: 1}, {Row: "aa", Col: "a"}, {Row: "b", Col: "a"}},
		{{Row: "a", Col: "bc", At: 1}, {Row: "ab", Col: "c", At: 2}}, {{Row: "Z", Col: "x"}, {Row: "a", Col: "x"}, {Row: "\x80", Col: "x"}},
		{{Row: "a", Col: "y"}, {Row: "a\x00", Col: "x"}}, {{Row: of(64), Col: of(64), At: mostAt, Value: strings.Repeat("v", 256)}},
		long,
	}
	for n := range 9 {
		l = append(l, long[n*7:n*7+n])
	}
	return l
}

// P8.1

func TestRight(t *testing.T) {
	for _, c := range someRight() {
		if !isRight(c) || !cell.Right(c) {
			t.Errorf("%s isn't right", say(c))
		}
	}
	for _, c := range someWrong() {
		if isRight(c) || cell.Right(c) {
			t.Errorf("%s is right", say(c))
		}
	}
}

// Each thing with each other, right or not.
func TestRightOfAllTogether(t *testing.T) {
	for _, row := range []string{"", "a", of(64), of(65)} {
		for _, col := range []string{"", "x", of(64), of(65)} {
			for _, at := range append(times(), noTimes()...) {
				for _, v := range []string{"", "v", strings.Repeat("v", 256), strings.Repeat("v", 257)} {
					for _, gone := range []bool{false, true} {
						c := api.Cell{Row: row, Col: col, At: at, Value: v, Gone: gone}
						if got := cell.Right(c); got != isRight(c) {
							t.Errorf("Right(%s) = %v", say(c), got)
						}
					}
				}
			}
		}
	}
}

func TestRightOfAllLengths(t *testing.T) {
	for n := range 400 {
		for _, c := range []api.Cell{
			{Row: of(n), Col: "x", At: 1}, {Row: "a", Col: of(n), At: 1}, {Row: of(n), Col: of(n)},
			{Row: "a", Col: "x", Value: of(n)}, {Row: "a", Col: "x", Value: of(n), Gone: true},
		} {
			if got := cell.Right(c); got != isRight(c) {
				t.Errorf("length %d: Right(%s) = %v", n, say(c), got)
			}
		}
	}
}

func TestCompareByTheLetter(t *testing.T) {
	for _, c := range []struct {
		a, b api.Cell
		want int
	}{
		{api.Cell{Row: "a", Col: "x", At: 9}, api.Cell{Row: "a", Col: "x", At: 3}, -1}, // the chapter's example
		{api.Cell{Row: "a", Col: "x", At: 3}, api.Cell{Row: "a", Col: "x", At: 3}, 0},
		{api.Cell{Row: "a", Col: "y", At: 9}, api.Cell{Row: "a", Col: "x", At: 3}, 1},
		{api.Cell{Row: "a", Col: "x", At: 3}, api.Cell{Row: "a", Col: "y", At: 9}, -1},
		{api.Cell{Row: "a", Col: "y", At: 9}, api.Cell{Row: "b", Col: "x", At: 3}, -1},
		{api.Cell{Row: "a", Col: "y", At: 3}, api.Cell{Row: "b", Col: "x", At: 9}, -1},
		{api.Cell{Row: "a", Col: "bc"}, api.Cell{Row: "ab", Col: "c"}, -1},
		{api.Cell{Row: "ab", Col: "a"}, api.Cell{Row: "a", Col: "b"}, 1},
		{api.Cell{Row: "b", Col: "x"}, api.Cell{Row: "aa", Col: "x"}, 1},
		{api.Cell{Row: "Z", Col: "x"}, api.Cell{Row: "a", Col: "x"}, -1},
		{api.Cell{Row: "\x80", Col: "x"}, api.Cell{Row: "a", Col: "x"}, 1},
		{api.Cell{Row: "\uffff", Col: "x"}, api.Cell{Row: "\U00010000", Col: "x"}, -1},
		{api.Cell{Row: "a", Col: "\x00"}, api.Cell{Row: "a", Col: "\x00\x00"}, -1},
		{api.Cell{Row: "a", Col: "x", At: 0}, api.Cell{Row: "a", Col: "x", At: mostAt}, 1},
		{api.Cell{Row: "a", Col: "x", At: math.MinInt}, api.Cell{Row: "a", Col: "x", At: math.MaxInt}, 1},
		{api.Cell{Row: "a", Col: "x", At: math.MinInt}, api.Cell{Row: "a", Col: "x", At: 1}, 1},
	} {
		if got, back := cell.Compare(c.a, c.b), cell.Compare(c.b, c.a); got != c.want || back != -c.want {
			t.Errorf("%s and %s: %d, back %d, want %d", say(c.a), say(c.b), got, back, c.want)
		}
	}
}

func TestComparePairs(t *testing.T) {
	l := someKeys()
	for _, a := range l {
		for _, b := range l {
			if got := cell.Compare(a, b); got != stand(a, b) {
				t.Errorf("Compare(%s, %s) = %d", say(a), say(b), got)
			}
		}
	}
}

// Only the keys stand in order: what is at them says nothing.
func TestCompareLooksAtKeysAlone(t *testing.T) {
	for _, more := range []api.Cell{{}, {Value: "v"}, {Value: "\xff"}, {Gone: true}, {Value: strings.Repeat("v", 300), Gone: true}} {
		for _, a := range someKeys() {
			b := a
			b.Value, b.Gone = more.Value, more.Gone
			if cell.Compare(a, b) != 0 || cell.Compare(b, a) != 0 {
				t.Errorf("%s and %s are unlike", say(a), say(b))
			}
			b.At--
			if want := stand(a, b); cell.Compare(a, b) != want || cell.Compare(b, a) != -want {
				t.Errorf("%s and %s, want %d", say(a), say(b), want)
			}
		}
	}
}

func TestSorted(t *testing.T) {
	for _, l := range someSorted() {
		if !isSorted(l) || !cell.Sorted(l) {
			t.Errorf("%s isn't sorted", sayAll(l))
		}
	}
}

// Two cells of a sorted list change places, or one stands there twice.
func TestSortedOfOtherOrder(t *testing.T) {
	for _, l := range someSorted() {
		l = l[:min(len(l), 40)]
		for i := range l {
			for j := range i {
				swapped := slices.Clone(l)
				swapped[i], swapped[j] = swapped[j], swapped[i]
				if cell.Sorted(swapped) {
					t.Errorf("%d and %d of %d swapped: sorted", j, i, len(l))
				}
			}
			other := l[i]
			other.Value, other.Gone = "", !other.Gone
			for _, c := range []api.Cell{l[i], other} {
				if cell.Sorted(slices.Insert(slices.Clone(l), i, c)) || cell.Sorted(slices.Insert(slices.Clone(l), i+1, c)) {
					t.Errorf("%d of %d twice: sorted", i, len(l))
				}
			}
		}
	}
}

// One that isn't right, at each place of a list that is in order with it.
func TestSortedOfWrongOnes(t *testing.T) {
	for _, wrong := range someWrong() {
		l := append(slices.Clone(someSorted()[4]), wrong)
		slices.SortFunc(l, stand)
		if cell.Sorted(l) || cell.Sorted([]api.Cell{wrong}) || cell.Sorted([]api.Cell{wrong, wrong}) {
			t.Errorf("sorted with %s", say(wrong))
		}
		ahead := api.Cell{Row: "\x00", Col: "\x00", At: mostAt}
		behind := api.Cell{Row: "\xff", Col: "\xff"}
		for _, l := range [][]api.Cell{{ahead, wrong}, {wrong, behind}, {ahead, wrong, behind}} {
			if cell.Sorted(l) {
				t.Errorf("sorted: %s", sayAll(l))
			}
		}
	}
}

// All lists of up to four of a few cells.
func TestSortedOfAllLists(t *testing.T) {
	kinds := []api.Cell{
		{Row: "a", Col: "x", At: 2}, {Row: "a", Col: "x", At: 1, Gone: true}, {Row: "a", Col: "y", At: 2, Value: "v"},
		{Row: "ab", Col: "a", At: 9}, {Row: "b", Col: "x", At: 3}, {Row: "", Col: "x"}, {Row: "c", Col: "x", At: -1},
	}
	var lists func(l []api.Cell)
	lists = func(l []api.Cell) {
		if got := cell.Sorted(l); got != isSorted(l) {
			t.Errorf("Sorted(%s) = %v", sayAll(l), got)
		}
		if len(l) == 4 {
			return
		}
		for _, c := range kinds {
			lists(append(slices.Clone(l), c))
		}
	}
	lists(nil)
}

// P8.2

func TestPutByTheLetter(t *testing.T) {
	for want, c := range map[string]api.Cell{
		"00000001720000000263630000010200" + "0000000176":         {Row: "r", Col: "cc", At: 258, Value: "v"},
		"00000001610000000178000000030100000000":                  {Row: "a", Col: "x", At: 3, Gone: true},
		"00000001610000000178000000000000000000":                  {Row: "a", Col: "x"},
		"0000000100" + "00000002fffe" + "ffffffff0000000000":      {Row: "\x00", Col: "\xff\xfe", At: mostAt},
		"00000002c3a9" + "0000000178" + "800000000000000000":      {Row: "\u00e9", Col: "x", At: 1 << 31},
		"0000000161" + "0000000178" + "01020304" + "000000000100": {Row: "a", Col: "x", At: 0x01020304, Value: "\x00"},
	} {
		if got := hex.EncodeToString(cell.Put(c)); got != want {
			t.Errorf("Put(%s) = %s, want %s", say(c), got, want)
		}
	}
}

func TestPut(t *testing.T) {
	for _, c := range someRight() {
		if b := cell.Put(c); !bytes.Equal(b, spelt(c)) {
			t.Errorf("Put(%s) = %s", say(c), short(b))
		}
	}
	most := api.Cell{Row: of(64), Col: of(64), At: mostAt, Value: strings.Repeat("v", 256)}
	if b := cell.Put(most); len(b) != 401 {
		t.Errorf("the longest has %d bytes", len(b))
	}
}

// The chapter says nothing of them, but that the call ends.
func TestPutOfWrongOnes(t *testing.T) {
	for _, c := range someWrong() {
		if b := cell.Put(c); len(b) != 0 {
			t.Errorf("Put(%s) = %s", say(c), short(b))
		}
	}
}

// checkCut holds Cut against counting, whatever the bytes are.
func checkCut(t *testing.T, b []byte) {
	t.Helper()
	c, rest, ok := cell.Cut(b)
	n := whole(b)
	if n < 0 {
		if ok || c != (api.Cell{}) || len(rest) != 0 {
			t.Errorf("Cut(%s) = %s, %s, %v", short(b), say(c), short(rest), ok)
		}
		return
	}
	if !ok || !isRight(c) || !bytes.Equal(spelt(c), b[:n]) || !bytes.Equal(rest, b[n:]) {
		t.Errorf("Cut(%s) = %s, %s, %v, of %d bytes", short(b), say(c), short(rest), ok, n)
	}
}

func TestCutByTheLetter(t *testing.T) {
	b := []byte{0, 0, 0, 1, 'r', 0, 0, 0, 2, 'c', 'c', 0, 0, 1, 2, 0, 0, 0, 0, 1, 'v', 7, 8}
	c, rest, ok := cell.Cut(b)
	if c != (api.Cell{Row: "r", Col: "cc", At: 258, Value: "v"}) || !bytes.Equal(rest, []byte{7, 8}) || !ok {
		t.Error(say(c), rest, ok)
	}
	b = []byte{0, 0, 0, 1, 'r', 0, 0, 0, 1, 'c', 255, 255, 255, 255, 1, 0, 0, 0, 0}
	c, rest, ok = cell.Cut(b)
	if c != (api.Cell{Row: "r", Col: "c", At: mostAt, Gone: true}) || len(rest) != 0 || !ok {
		t.Error(say(c), rest, ok)
	}
}

// tails stand behind a cell; some look like more of it.
func tails() [][]byte {
	return [][]byte{
		nil, {0}, {1}, {7, 8}, make([]byte, 4), make([]byte, 19), {255, 255, 255, 255}, {'v', 'v', 'v', 'v', 'v'},
		spelt(api.Cell{Row: "a", Col: "x", At: 3}), spelt(api.Cell{Row: "a", Col: "x", At: 3})[:18],
		bytes.Repeat([]byte{'n'}, 300), make([]byte, 401), bytes.Repeat([]byte{0xff}, 1000),
		bytes.Repeat(spelt(api.Cell{Row: "a", Col: "x", At: 3, Value: "v"}), 100),
	}
}

func TestCut(t *testing.T) {
	for _, tail := range tails() {
		checkCut(t, tail)
		for _, c := range someRight() {
			checkCut(t, join(spelt(c), tail))
		}
	}
}

// Nothing of what isn't whole.
func TestCutOfBeginnings(t *testing.T) {
	for _, c := range someRight() {
		b := spelt(c)
		for n := range b {
			d, rest, ok := cell.Cut(b[:n])
			if d != (api.Cell{}) || len(rest) != 0 || ok {
				t.Fatalf("the first %d bytes of %s: %s, %s, %v", n, say(c), say(d), short(rest), ok)
			}
		}
	}
}

// Nothing of what is whole, but no right cell, whatever stands behind it.
func TestCutOfWrongOnes(t *testing.T) {
	for _, tail := range tails() {
		for _, c := range someWrong() {
			if c.At < 0 || c.At > mostAt {
				continue // it has no bytes
			}
			b := join(spelt(c), tail)
			d, rest, ok := cell.Cut(b)
			if d != (api.Cell{}) || len(rest) != 0 || ok {
				t.Errorf("Cut(%s) = %s, %s, %v", short(b), say(d), short(rest), ok)
			}
		}
	}
}

// The byte that says whether it is gone, of all kinds, with and without a value.
func TestCutOfEachByte(t *testing.T) {
	for _, v := range []string{"", "v"} {
		b := spelt(api.Cell{Row: "a", Col: "x", At: 3, Value: v})
		for n := range 256 {
			b[14] = byte(n)
			c, _, ok := cell.Cut(b)
			want := n == 0 || n == 1 && v == ""
			if ok != want || c.Gone != (want && n == 1) {
				t.Errorf("byte %d, value %q: %s, %v", n, v, say(c), ok)
			}
			checkCut(t, b)
		}
	}
}

// Numbers of bytes that aren't those that are there.
func TestCutOfOtherLengths(t *testing.T) {
	c := api.Cell{Row: "row", Col: "col", At: 3, Value: "value"}
	numbers := []int{0, 1, 2, 3, 4, 5, 6, 63, 64, 65, 255, 256, 257, 1 << 16, 1 << 24, 1<<31 - 1, 1 << 31, mostAt}
	for _, at := range []int{0, 7, 19} {
		for _, n := range numbers {
			for _, tail := range tails() {
				b := join(spelt(c), tail)
				copy(b[at:], num(n))
				checkCut(t, b)
			}
		}
	}
}

// Each byte of a cell's bytes, changed to whatever else.
func TestCutOfChangedBytes(t *testing.T) {
	for _, c := range []api.Cell{{Row: "r", Col: "cc", At: 258, Value: "v"}, {Row: "a", Col: "x", At: 3, Gone: true}, {Row: of(64), Col: of(64), Value: strings.Repeat("v", 256)}} {
		b := join(spelt(c), []byte{7, 8})
		for at := range b {
			for v := range 256 {
				changed := slices.Clone(b)
				changed[at] = byte(v)
				checkCut(t, changed)
			}
		}
	}
}

// Short bytes of zeros and ones: alone, with an end that a cell may have, and
// behind a Row.
func TestCutOfShortBytes(t *testing.T) {
	for i := range 1 << 12 {
		b := make([]byte, 0, 19)
		for at := range 12 {
			b = append(b, byte(i>>at&1))
		}
		checkCut(t, b)
		checkCut(t, append(b, make([]byte, 7)...))
		checkCut(t, append([]byte{0, 0, 0, 1, 'a', 0, 0, 0, 1}, b...))
	}
}

func FuzzCut(f *testing.F) {
	for _, c := range someRight() {
		f.Add(spelt(c))
	}
	f.Add(join(spelt(api.Cell{Row: "a", Col: "x", Value: "v", Gone: true}), make([]byte, 400)))
	f.Fuzz(checkCut)
}

// P8.3

func checkNewest(t *testing.T, l []api.Cell, row, col string, at int) {
	t.Helper()
	c, ok := cell.Newest(l, row, col, at)
	if want, is := newest(l, row, col, at); c != want || ok != is {
		t.Errorf("Newest of %d cells, %q, %q, %d = %s, %v, want %s, %v", len(l), row, col, at, say(c), ok, say(want), is)
	}
}

func TestNewestByTheLetter(t *testing.T) {
	l := []api.Cell{
		{Row: "a", Col: "x", At: 9, Value: "9"}, {Row: "a", Col: "x", At: 3, Value: "3"}, {Row: "a", Col: "x", At: 2, Gone: true},
		{Row: "a", Col: "y", At: 5, Value: "5"}, {Row: "ab", Col: "a", At: 0, Value: "0"}, {Row: "b", Col: "x", At: mostAt, Value: "most"},
	}
	for _, c := range []struct {
		row, col string
		at, want int
	}{
		{"a", "x", 10, 0}, {"a", "x", 9, 0}, {"a", "x", 8, 1}, {"a", "x", 4, 1}, {"a", "x", 3, 1}, {"a", "x", 2, 2}, {"a", "x", 1, -1},
		{"a", "x", 0, -1}, {"a", "x", -1, -1}, {"a", "x", math.MinInt, -1}, {"a", "x", math.MaxInt, 0}, {"a", "x", 1 << 32, 0},
		{"a", "y", 5, 3}, {"a", "y", 4, -1}, {"a", "y", mostAt, 3}, {"ab", "a", 0, 4}, {"ab", "a", -1, -1}, {"ab", "a", 1, 4},
		{"b", "x", mostAt, 5}, {"b", "x", mostAt - 1, -1}, {"b", "x", math.MaxInt, 5},
		{"a", "w", 9, -1}, {"a", "xa", 9, -1}, {"a", "z", 9, -1}, {"A", "x", 9, -1}, {"ab", "x", 9, -1}, {"b", "a", 9, -1}, {"c", "x", 9, -1},
		{"", "", 9, -1}, {"a", "", 9, -1}, {"", "x", 9, -1}, {of(65), "x", 9, -1}, {"b", of(1 << 16), 9, -1},
	} {
		got, ok := cell.Newest(l, c.row, c.col, c.at)
		if ok != (c.want >= 0) || !ok && got != (api.Cell{}) || ok && got != l[c.want] {
			t.Errorf("%q, %q, %d: %s, %v", c.row, c.col, c.at, say(got), ok)
		}
	}
	if c, ok := cell.Newest(nil, "a", "x", 9); c != (api.Cell{}) || ok {
		t.Error(say(c), ok)
	}
}

func TestNewest(t *testing.T) {
	rows := append(names(), "", "c", "aaa", "\x00\x00\x00", of(65))
	for _, l := range someSorted() {
		for _, row := range rows {
			for _, col := range []string{"", "a", "aa", "b", "ba", "bb", "x", "y", "z"} {
				for _, at := range []int{math.MinInt, -1, 0, 1, 2, 3, 4, 7, 8, 9, 99, 100, 101, mostAt - 1, mostAt, mostAt + 1, math.MaxInt} {
					checkNewest(t, l, row, col, at)
				}
			}
		}
	}
}

// Each key of a list finds its own cell, and what is later finds it as well.
func TestNewestFindsEach(t *testing.T) {
	for _, l := range someSorted() {
		for i, c := range l {
			if got, ok := cell.Newest(l, c.Row, c.Col, c.At); got != c || !ok {
				t.Errorf("%s: %s, %v", say(c), say(got), ok)
			}
			checkNewest(t, l, c.Row, c.Col, c.At+1)
			checkNewest(t, l, c.Row, c.Col, c.At-1)
			checkNewest(t, append(slices.Clone(l[:i]), l[i+1:]...), c.Row, c.Col, c.At)
		}
	}
}

// All lists of a few keys that are in order.
func TestNewestOfAllLists(t *testing.T) {
	var keys []api.Cell
	for _, row := range []string{"a", "ab"} {
		for _, col := range []string{"x", "y"} {
			for _, at := range []int{4, 2, 0} {
				keys = append(keys, api.Cell{Row: row, Col: col, At: at, Gone: at == 2})
			}
		}
	}
	for set := range 1 << len(keys) {
		var l []api.Cell
		for i, c := range keys {
			if set>>i&1 == 1 {
				l = append(l, c)
			}
		}
		for _, row := range []string{"a", "ab", "b"} {
			for _, col := range []string{"w", "x", "y", "z"} {
				for at := -1; at <= 5; at++ {
					checkNewest(t, l, row, col, at)
				}
			}
		}
	}
}

// P8.4

// Of two keys one is ahead, or they are one; ahead of what is ahead is ahead.
func TestTheOrderIsOne(t *testing.T) {
	l := someKeys()
	for _, a := range l {
		for _, b := range l {
			n := cell.Compare(a, b)
			same := a.Row == b.Row && a.Col == b.Col && a.At == b.At
			if n < -1 || n > 1 || (n == 0) != same || cell.Compare(b, a) != -n {
				t.Errorf("%s and %s: %d, back %d", say(a), say(b), n, cell.Compare(b, a))
			}
			if n >= 0 {
				continue
			}
			for _, c := range l {
				if cell.Compare(b, c) < 0 && cell.Compare(a, c) >= 0 {
					t.Fatalf("%s, %s and %s go round", say(a), say(b), say(c))
				}
			}
		}
	}
}

// Cells in whatever order, put in order, stand as they stood.
func TestOneOrderOfAnyOrder(t *testing.T) {
	for _, l := range someSorted() {
		for seed := range 5 {
			c := shuffled(l, int64(seed))
			slices.SortFunc(c, cell.Compare)
			if !slices.Equal(c, l) || !cell.Sorted(c) {
				t.Errorf("%d cells of order %d stand otherwise", len(l), seed)
			}
		}
	}
}

func TestPutIsCutAsItWas(t *testing.T) {
	for _, tail := range tails() {
		for _, c := range someRight() {
			d, rest, ok := cell.Cut(join(cell.Put(c), tail))
			if d != c || !bytes.Equal(rest, tail) || !ok {
				t.Errorf("%s ahead of %s: %s, %s, %v", say(c), short(tail), say(d), short(rest), ok)
			}
		}
	}
}

// Cells, one behind the other, are cut off one by one.
func TestManyArePutAndCut(t *testing.T) {
	l := shuffled(someRight(), 3)
	var b []byte
	for _, c := range l {
		b = append(b, cell.Put(c)...)
	}
	for i, c := range l {
		d, rest, ok := cell.Cut(b)
		if d != c || !ok {
			t.Fatalf("cell %d: %s, %v, want %s", i, say(d), ok, say(c))
		}
		b = rest
	}
	if len(b) != 0 {
		t.Error(short(b))
	}
}

// P8.5

func fill(b []byte) {
	for i := range b[:cap(b)] {
		b[:cap(b)][i] = 99
	}
}

func TestPutIsNewMemory(t *testing.T) {
	for _, c := range someRight() {
		fill(cell.Put(c))
		if b := cell.Put(c); !bytes.Equal(b, spelt(c)) {
			t.Errorf("%s: %s behind a change of an answer", say(c), short(b))
		}
	}
}

// cutInputs are such as hold a cell and such as don't.
func cutInputs() [][]byte {
	l := tails()
	for _, c := range append(someRight()[:20], someWrong()[:20]...) {
		for _, tail := range tails() {
			l = append(l, join(spelt(c), tail))
		}
	}
	return l
}

// What is handed in has spare memory behind it, which isn't Cut's to write either.
func TestCutLeavesWhatIsHandedIn(t *testing.T) {
	for _, b := range cutInputs() {
		wide := join(b, []byte{41, 42, 43, 44})
		want := slices.Clone(wide)
		_, rest, _ := cell.Cut(wide[:len(b)])
		if !bytes.Equal(wide, want) {
			t.Errorf("Cut changed %s", short(b))
		}
		fill(rest)
		_ = append(rest, 98, 97)
		if !bytes.Equal(wide, want) {
			t.Errorf("Cut(%s): the rest shares its memory", short(b))
		}
	}
}

func TestCutIsNewMemory(t *testing.T) {
	for _, b := range cutInputs() {
		c, rest, ok := cell.Cut(b)
		told, left := spelt(c), slices.Clone(rest)
		fill(b)
		if !bytes.Equal(spelt(c), told) || !bytes.Equal(rest, left) {
			t.Errorf("what was answered, %v, changed with what was handed in", ok)
		}
	}
}

func TestListsStay(t *testing.T) {
	spare := []api.Cell{{Row: "spare", Col: "spare", At: 1}, {Value: "spare"}}
	for _, l := range append(someSorted(), someWrong(), shuffled(someRight(), 1), someKeys()) {
		wide := slices.Concat(l, spare)
		want := slices.Clone(wide)
		cell.Sorted(wide[:len(l)])
		for _, c := range l[:min(len(l), 50)] {
			cell.Newest(wide[:len(l)], c.Row, c.Col, c.At)
		}
		if !slices.Equal(wide, want) {
			t.Errorf("a list of %d, or what stands behind it, has changed", len(l))
		}
	}
}

// What Newest told stays, whatever is done with the list then.
func TestNewestIsOfItsOwn(t *testing.T) {
	l := slices.Clone(someSorted()[4])
	c, ok := cell.Newest(l, "a", "x", 9)
	was := c
	for i := range l {
		l[i] = api.Cell{Row: "other", Col: "other", Value: "other"}
	}
	if c != was || !ok {
		t.Errorf("%s, was %s, %v", say(c), say(was), ok)
	}
}

// P1: every call ends, whatever the cells are.
func TestNoCallPanics(t *testing.T) {
	l := append(append(someWrong(), someKeys()...), someRight()...)
	for _, c := range l {
		cell.Right(c)
		cell.Put(c)
		cell.Sorted([]api.Cell{c, c})
		cell.Newest(l, c.Row, c.Col, c.At)
		cell.Newest([]api.Cell{c}, c.Row, c.Col, c.At)
	}
}
