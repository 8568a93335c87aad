package wire_test

import (
	"bytes"
	"encoding/binary"
	"math"
	"slices"
	"strings"
	"testing"

	"shardlog/wire"
)

// someTexts are ordinary texts and those at the edges: empty, not UTF-8, with
// zero bytes, and of lengths at which another byte of the number begins.
func someTexts() []string {
	return []string{
		"", "a", "ab", "\x00", "\x00\x00\x00\x01", "\xff\xfe\x80", "gr\u00fc\u00df",
		strings.Repeat("x", 255), strings.Repeat("y", 256), strings.Repeat("z", 1<<16),
	}
}

func someLists() [][]string {
	return [][]string{
		nil, {}, {""}, {"", ""}, {"a"}, {"ab", "", "c"}, {"", "", "\x00"},
		{"\x00\x00\x00\x02", "b"}, someTexts(), make([]string, 300),
	}
}

// someRests stand behind what is put; some look like more of it.
func someRests() [][]byte {
	return [][]byte{nil, {0}, {7, 8}, {0, 0, 0, 0}, {0, 0, 0, 1, 'x'}, {255, 255, 255, 255, 255}}
}

func join(parts ...[]byte) []byte {
	return slices.Concat(parts...)
}

// P1.1

func TestNum(t *testing.T) {
	for n, want := range map[int][]byte{
		0:           {0, 0, 0, 0},
		1:           {0, 0, 0, 1},
		255:         {0, 0, 0, 255},
		256:         {0, 0, 1, 0},
		1<<16 - 1:   {0, 0, 255, 255},
		1 << 16:     {0, 1, 0, 0},
		1 << 24:     {1, 0, 0, 0},
		0x01020304:  {1, 2, 3, 4},
		0xfedcba98:  {0xfe, 0xdc, 0xba, 0x98},
		1<<31 - 1:   {127, 255, 255, 255},
		1 << 31:     {128, 0, 0, 0},
		1<<32 - 2:   {255, 255, 255, 254},
		1<<32 - 1:   {255, 255, 255, 255},
		1 << 32:     nil,
		1<<32 + 1:   nil,
		1 << 40:     nil,
		math.MaxInt: nil,
		-1:          nil,
		-256:        nil,
		-1 << 31:    nil,
		-1 << 32:    nil,
		math.MinInt: nil,
	} {
		if b := wire.Num(n); !bytes.Equal(b, want) {
			t.Errorf("Num(%d) = %v, want %v", n, b, want)
		}
	}
}

func TestText(t *testing.T) {
	for s, want := range map[string][]byte{
		"":         {0, 0, 0, 0},
		"ab":       {0, 0, 0, 2, 0x61, 0x62},
		"\x00":     {0, 0, 0, 1, 0},
		"\xff\x80": {0, 0, 0, 2, 0xff, 0x80},
		"\u00e9":   {0, 0, 0, 2, 0xc3, 0xa9},
	} {
		if b := wire.Text(s); !bytes.Equal(b, want) {
			t.Errorf("Text(%q) = %v, want %v", s, b, want)
		}
	}
	for _, s := range someTexts() {
		want := append(binary.BigEndian.AppendUint32(nil, uint32(len(s))), s...)
		if b := wire.Text(s); !bytes.Equal(b, want) {
			t.Errorf("Text of %d bytes has %d, want %d", len(s), len(b), len(want))
		}
	}
}

func TestTexts(t *testing.T) {
	for _, c := range []struct {
		l    []string
		want []byte
	}{
		{nil, []byte{0, 0, 0, 0}},
		{[]string{}, []byte{0, 0, 0, 0}},
		{[]string{""}, []byte{0, 0, 0, 1, 0, 0, 0, 0}},
		{[]string{"ab"}, []byte{0, 0, 0, 1, 0, 0, 0, 2, 'a', 'b'}},
		{[]string{"ab", "", "c"}, []byte{0, 0, 0, 3, 0, 0, 0, 2, 'a', 'b', 0, 0, 0, 0, 0, 0, 0, 1, 'c'}},
		{[]string{"b", "a", "b"}, []byte{0, 0, 0, 3, 0, 0, 0, 1, 'b', 0, 0, 0, 1, 'a', 0, 0, 0, 1, 'b'}},
	} {
		if b := wire.Texts(c.l); !bytes.Equal(b, c.want) {
			t.Errorf("Texts(%q) = %v, want %v", c.l, b, c.want)
		}
	}
	if b := wire.Texts(make([]string, 300)); len(b) != 4+300*4 || !bytes.Equal(b[:4], []byte{0, 0, 1, 44}) {
		t.Errorf("Texts of 300 empty texts has %d bytes and begins with %v", len(b), b[:4])
	}
}

// P1.2

func TestCutNum(t *testing.T) {
	for _, c := range []struct {
		b    []byte
		n    int
		rest []byte
		ok   bool
	}{
		{nil, 0, nil, false},
		{[]byte{}, 0, nil, false},
		{[]byte{1}, 0, nil, false},
		{[]byte{1, 2}, 0, nil, false},
		{[]byte{1, 2, 3}, 0, nil, false},
		{[]byte{255, 255, 255}, 0, nil, false},
		{[]byte{0, 0, 0, 0}, 0, nil, true},
		{[]byte{1, 2, 3, 4}, 0x01020304, nil, true},
		{[]byte{128, 0, 0, 0}, 1 << 31, nil, true},
		{[]byte{255, 255, 255, 255}, 1<<32 - 1, nil, true},
		{[]byte{0, 0, 0, 9, 5}, 9, []byte{5}, true},
		{[]byte{0, 0, 1, 0, 5, 6, 7, 8, 9}, 256, []byte{5, 6, 7, 8, 9}, true},
	} {
		n, rest, ok := wire.CutNum(c.b)
		if n != c.n || !bytes.Equal(rest, c.rest) || ok != c.ok {
			t.Errorf("CutNum(%v) = %d, %v, %v", c.b, n, rest, ok)
		}
	}
}

func TestCutText(t *testing.T) {
	for _, c := range []struct {
		b    []byte
		s    string
		rest []byte
		ok   bool
	}{
		{nil, "", nil, false},
		{[]byte{0, 0, 0}, "", nil, false},
		{[]byte{0, 0, 0, 0}, "", nil, true},
		{[]byte{0, 0, 0, 0, 'x'}, "", []byte{'x'}, true},
		{[]byte{0, 0, 0, 1}, "", nil, false},
		{[]byte{0, 0, 0, 2, 'a'}, "", nil, false},
		{[]byte{0, 0, 0, 2, 'a', 'b'}, "ab", nil, true},
		{[]byte{0, 0, 0, 2, 'a', 'b', 'c', 'd'}, "ab", []byte{'c', 'd'}, true},
		{[]byte{0, 0, 0, 3, 0xff, 0, 0x80}, "\xff\x00\x80", nil, true},
		{[]byte{0, 0, 1, 0, 'a'}, "", nil, false},
		{[]byte{1, 0, 0, 0, 'a'}, "", nil, false},
		{[]byte{128, 0, 0, 0, 'a'}, "", nil, false},
		{[]byte{255, 255, 255, 255}, "", nil, false},
		{[]byte{255, 255, 255, 255, 'x'}, "", nil, false},
	} {
		s, rest, ok := wire.CutText(c.b)
		if s != c.s || !bytes.Equal(rest, c.rest) || ok != c.ok {
			t.Errorf("CutText(%v) = %q, %v, %v", c.b, s, rest, ok)
		}
	}
}

func TestCutTexts(t *testing.T) {
	for _, c := range []struct {
		b    []byte
		l    []string
		rest []byte
		ok   bool
	}{
		{nil, nil, nil, false},
		{[]byte{0, 0, 0}, nil, nil, false},
		{[]byte{0, 0, 0, 0}, nil, nil, true},
		{[]byte{0, 0, 0, 0, 7}, nil, []byte{7}, true},
		{[]byte{0, 0, 0, 1}, nil, nil, false},
		{[]byte{0, 0, 0, 1, 0, 0, 0}, nil, nil, false},
		{[]byte{0, 0, 0, 1, 0, 0, 0, 0}, []string{""}, nil, true},
		{[]byte{0, 0, 0, 1, 0, 0, 0, 1}, nil, nil, false},
		{[]byte{0, 0, 0, 1, 0, 0, 0, 1, 'a', 'b'}, []string{"a"}, []byte{'b'}, true},
		{[]byte{0, 0, 0, 2, 0, 0, 0, 1, 'a'}, nil, nil, false},
		{[]byte{0, 0, 0, 2, 0, 0, 0, 1, 'a', 0, 0, 0, 2, 'b'}, nil, nil, false},
		{[]byte{0, 0, 0, 2, 0, 0, 0, 1, 'a', 0, 0, 0, 0, 9}, []string{"a", ""}, []byte{9}, true},
		{[]byte{128, 0, 0, 0, 0, 0, 0, 0}, nil, nil, false},
		{[]byte{255, 255, 255, 255}, nil, nil, false},
		{[]byte{255, 255, 255, 255, 0, 0, 0, 1, 'a'}, nil, nil, false},
		{[]byte{0, 0, 0, 1, 255, 255, 255, 255, 'a'}, nil, nil, false},
	} {
		l, rest, ok := wire.CutTexts(c.b)
		if !slices.Equal(l, c.l) || !bytes.Equal(rest, c.rest) || ok != c.ok {
			t.Errorf("CutTexts(%v) = %q, %v, %v", c.b, l, rest, ok)
		}
	}
}

// P1.3

func TestPutIsCutAsItWas(t *testing.T) {
	for _, rest := range someRests() {
		for _, n := range []int{0, 1, 255, 256, 1 << 16, 1<<31 - 1, 1 << 31, 1<<32 - 1} {
			got, left, ok := wire.CutNum(join(wire.Num(n), rest))
			if got != n || !bytes.Equal(left, rest) || !ok {
				t.Errorf("number %d ahead of %v: %d, %v, %v", n, rest, got, left, ok)
			}
		}
		for _, s := range someTexts() {
			got, left, ok := wire.CutText(join(wire.Text(s), rest))
			if got != s || !bytes.Equal(left, rest) || !ok {
				t.Errorf("text of %d bytes ahead of %v: %d bytes, %v, %v", len(s), rest, len(got), left, ok)
			}
		}
		for _, l := range someLists() {
			got, left, ok := wire.CutTexts(join(wire.Texts(l), rest))
			if !slices.Equal(got, l) || !bytes.Equal(left, rest) || !ok {
				t.Errorf("%d texts ahead of %v: %d, %v, %v", len(l), rest, len(got), left, ok)
			}
		}
	}
}

func TestBeginningsAreNotWhole(t *testing.T) {
	b := wire.Texts([]string{"ab", "", "c"})
	for n := range b {
		l, rest, ok := wire.CutTexts(b[:n])
		if len(l) != 0 || len(rest) != 0 || ok {
			t.Errorf("CutTexts of the first %d bytes = %q, %v, %v", n, l, rest, ok)
		}
	}
	b = wire.Text("abcde")
	for n := range b {
		s, rest, ok := wire.CutText(b[:n])
		if s != "" || len(rest) != 0 || ok {
			t.Errorf("CutText of the first %d bytes = %q, %v, %v", n, s, rest, ok)
		}
	}
}

// wholeText tells by counting alone, apart from package wire, how many bytes
// the text at the beginning has; -1: it isn't whole.
func wholeText(b []byte) int {
	if len(b) < 4 {
		return -1
	}
	n := int64(binary.BigEndian.Uint32(b)) + 4
	if n > int64(len(b)) {
		return -1
	}
	return int(n)
}

func wholeTexts(b []byte) int {
	if len(b) < 4 {
		return -1
	}
	at := 4
	for range binary.BigEndian.Uint32(b) {
		n := wholeText(b[at:])
		if n < 0 {
			return -1
		}
		at += n
	}
	return at
}

// standsAs tells whether what was cut off, put again, is the first whole bytes
// of b, and the rest what stands behind; of bytes that aren't whole (below 0),
// whether nothing was answered.
func standsAs(b []byte, whole int, put, rest []byte, zero, ok bool) bool {
	if whole < 0 {
		return !ok && zero && len(rest) == 0
	}
	return ok && bytes.Equal(put, b[:whole]) && bytes.Equal(rest, b[whole:])
}

func checkCuts(t *testing.T, b []byte) {
	t.Helper()
	whole := 4
	if len(b) < 4 {
		whole = -1
	}
	n, rest, ok := wire.CutNum(b)
	if !standsAs(b, whole, wire.Num(n), rest, n == 0, ok) {
		t.Errorf("CutNum(%v) = %d, %v, %v", b, n, rest, ok)
	}
	s, rest, ok := wire.CutText(b)
	if !standsAs(b, wholeText(b), wire.Text(s), rest, s == "", ok) {
		t.Errorf("CutText(%v) = %q, %v, %v", b, s, rest, ok)
	}
	l, rest, ok := wire.CutTexts(b)
	if !standsAs(b, wholeTexts(b), wire.Texts(l), rest, len(l) == 0, ok) {
		t.Errorf("CutTexts(%v) = %q, %v, %v", b, l, rest, ok)
	}
}

// All short bytes of few kinds: long enough for a list of two texts.
func TestCutIsPutAsItStood(t *testing.T) {
	const most = 12
	for length := range most + 1 {
		count := 1
		for range length {
			count *= 3
		}
		for i := range count {
			b := make([]byte, length)
			for at, left := 0, i; at < length; at, left = at+1, left/3 {
				b[at] = byte(left % 3)
			}
			checkCuts(t, b)
		}
	}
}

// Each byte of a list's bytes, changed to whatever else.
func TestChangedBytes(t *testing.T) {
	b := join(wire.Texts([]string{"ab", "", "c"}), []byte{7, 8})
	for at := range b {
		for v := range 256 {
			changed := bytes.Clone(b)
			changed[at] = byte(v)
			checkCuts(t, changed)
		}
	}
}

func FuzzCut(f *testing.F) {
	for _, l := range someLists() {
		f.Add(wire.Texts(l))
	}
	f.Fuzz(checkCuts)
}

// A copy of the rest for each text would take minutes here.
func TestLongListEnds(t *testing.T) {
	const many = 1 << 20
	l, rest, ok := wire.CutTexts(join(wire.Texts(make([]string, many)), []byte{1}))
	if len(l) != many || !bytes.Equal(rest, []byte{1}) || !ok {
		t.Error(len(l), rest, ok)
	}
	if l, rest, ok := wire.CutTexts(join(wire.Num(many+1), make([]byte, 4*many))); len(l) != 0 || len(rest) != 0 || ok {
		t.Error(len(l), len(rest), ok)
	}
}

// P1.4

func fill(b []byte, v byte) {
	for i := range b {
		b[i] = v
	}
}

func TestPutsAreNewMemory(t *testing.T) {
	list := []string{"ab", "", "c"}
	for name, put := range map[string]func() []byte{
		"Num":        func() []byte { return wire.Num(7) },
		"Text":       func() []byte { return wire.Text("ab") },
		"empty Text": func() []byte { return wire.Text("") },
		"Texts":      func() []byte { return wire.Texts(list) },
		"no Texts":   func() []byte { return wire.Texts(nil) },
	} {
		first := put()
		want := bytes.Clone(first)
		fill(first[:cap(first)], 99)
		if second := put(); !bytes.Equal(second, want) {
			t.Errorf("%s: %v behind a change of an answer, want %v", name, second, want)
		}
	}
	if !slices.Equal(list, []string{"ab", "", "c"}) {
		t.Error("Texts changed its list:", list)
	}
}

// cuts are the three calls, each telling its answer without the rest as bytes,
// so that what happens to the answer's memory is to be seen.
func cuts() map[string]func(b []byte) (func() []byte, []byte) {
	return map[string]func(b []byte) (func() []byte, []byte){
		"CutNum": func(b []byte) (func() []byte, []byte) {
			n, rest, _ := wire.CutNum(b)
			return func() []byte { return wire.Num(n) }, rest
		},
		"CutText": func(b []byte) (func() []byte, []byte) {
			s, rest, _ := wire.CutText(b)
			return func() []byte { return wire.Text(s) }, rest
		},
		"CutTexts": func(b []byte) (func() []byte, []byte) {
			l, rest, _ := wire.CutTexts(b)
			return func() []byte { return wire.Texts(l) }, rest
		},
	}
}

// inputs have spare memory behind them, which isn't theirs to write either.
func inputs() [][]byte {
	return [][]byte{
		join(wire.Texts([]string{"ab", "", "c"}), []byte{7, 8}),
		wire.Texts([]string{"ab"}),
		wire.Text("ab"),
		wire.Num(0),
		{0, 0, 0, 1, 0, 0, 0, 9, 'a'},
		{255, 255, 255, 255, 1},
		{1, 2, 3},
	}
}

func TestCutsLeaveWhatIsHandedIn(t *testing.T) {
	for name, cut := range cuts() {
		for _, b := range inputs() {
			whole := join(b, []byte{41, 42, 43, 44})
			want := bytes.Clone(whole)
			_, rest := cut(whole[:len(b)])
			if !bytes.Equal(whole, want) {
				t.Errorf("%s(%v) changed it to %v", name, want, whole)
			}
			fill(rest[:cap(rest)], 99)
			rest = append(rest, 98, 97)
			if !bytes.Equal(whole, want) {
				t.Errorf("%s(%v): the rest %v shares its memory", name, want, rest)
			}
		}
	}
}

func TestCutsAreNewMemory(t *testing.T) {
	for name, cut := range cuts() {
		for _, b := range inputs() {
			tell, rest := cut(b)
			told, left := tell(), bytes.Clone(rest)
			fill(b, 99)
			if !bytes.Equal(tell(), told) || !bytes.Equal(rest, left) {
				t.Errorf("%s: what was answered, %v and %v, changed to %v and %v", name, told, left, tell(), rest)
			}
		}
	}
}

func TestListsAreNewMemory(t *testing.T) {
	b := wire.Texts([]string{"ab", "c"})
	first, _, _ := wire.CutTexts(b)
	first[0], first[1] = "x", "y"
	if second, _, _ := wire.CutTexts(b); !slices.Equal(second, []string{"ab", "c"}) {
		t.Error("a second answer shares the first one's memory:", second)
	}
}
