package disk_test

import (
	"bytes"
	"encoding/binary"
	"fmt"
	"math"
	"math/big"
	"math/rand"
	"slices"
	"sort"
	"strings"
	"testing"

	"shardlog/api"
	"shardlog/disk"
)

const (
	maxDisk = 65536
	maxName = 24
)

// The words of the chapter once more: a list of files, in which each byte says
// by itself whether it is synced.

type mark struct {
	b      byte
	synced bool
}

type paper struct {
	name  string
	marks []mark
}

type model struct {
	capacity int
	papers   []*paper
}

func newModel(capacity int) *model {
	if capacity < 0 {
		capacity = 0
	}
	if capacity > maxDisk {
		capacity = maxDisk
	}
	return &model{capacity: capacity}
}

func (m *model) find(name string) *paper {
	for _, p := range m.papers {
		if p.name == name {
			return p
		}
	}
	return nil
}

func (m *model) used() int {
	n := 0
	for _, p := range m.papers {
		n += len(p.marks)
	}
	return n
}

func (m *model) names() []string {
	var l []string
	for _, p := range m.papers {
		l = append(l, p.name)
	}
	sort.Strings(l)
	return l
}

func noName(s string) bool { return s == "" || len(s) > maxName }

func (m *model) append(name string, b []byte) api.Errno {
	if noName(name) {
		return api.ErrArg
	}
	if m.used()+len(b) > m.capacity {
		return api.ErrFull
	}
	p := m.find(name)
	if p == nil {
		p = &paper{name: name}
		m.papers = append(m.papers, p)
	}
	for _, c := range b {
		p.marks = append(p.marks, mark{c, false})
	}
	return api.OK
}

func (m *model) sync(name string) api.Errno {
	p := m.find(name)
	if p == nil {
		return api.ErrNone
	}
	for i := range p.marks {
		p.marks[i].synced = true
	}
	return api.OK
}

func (m *model) rename(a, b string) api.Errno {
	if noName(a) || noName(b) {
		return api.ErrArg
	}
	p := m.find(a)
	if p == nil {
		return api.ErrNone
	}
	if a != b {
		m.remove(b)
		p.name = b
	}
	return api.OK
}

func (m *model) remove(name string) api.Errno {
	for i, p := range m.papers {
		if p.name == name {
			m.papers = slices.Delete(m.papers, i, i+1)
			return api.OK
		}
	}
	return api.ErrNone
}

func (m *model) trim(name string, n int) api.Errno {
	p := m.find(name)
	if p == nil {
		return api.ErrNone
	}
	if n < 0 || n > len(p.marks) {
		return api.ErrArg
	}
	p.marks = p.marks[:n]
	return api.OK
}

func (m *model) turn(name string, at int, by byte) api.Errno {
	p := m.find(name)
	if p == nil {
		return api.ErrNone
	}
	if at < 0 || at >= len(p.marks) {
		return api.ErrArg
	}
	p.marks[at].b ^= by
	return api.OK
}

// share is what a number keeps of a rest; big, as the distance of the least int
// from 0 is no int.
func share(n, rest int) int {
	d := new(big.Int).Abs(big.NewInt(int64(n)))
	return int(d.Mod(d, big.NewInt(int64(rest)+1)).Int64())
}

func (m *model) crash(keep []int) {
	next := 0
	for _, name := range m.names() {
		p := m.find(name)
		sure := len(p.sure())
		rest := len(p.marks) - sure
		if rest == 0 {
			continue
		}
		kept := 0
		if next < len(keep) {
			kept = share(keep[next], rest)
		}
		next++
		p.marks = p.marks[:sure+kept]
		m.sync(name)
	}
}

func (m *model) copy() *model {
	c := &model{capacity: m.capacity}
	for _, p := range m.papers {
		c.papers = append(c.papers, &paper{p.name, slices.Clone(p.marks)})
	}
	return c
}

func (p *paper) all() []byte {
	var b []byte
	for _, x := range p.marks {
		b = append(b, x.b)
	}
	return b
}

func (p *paper) sure() []byte {
	var b []byte
	for _, x := range p.marks {
		if x.synced {
			b = append(b, x.b)
		}
	}
	return b
}

// state is all that a disk tells of itself, for one look or to be held against
// another one.
func state(d *disk.Disk) string {
	var s strings.Builder
	fmt.Fprintf(&s, "used %d", d.Used())
	for _, name := range d.Names() {
		b, e := d.Read(name)
		c, f := d.Synced(name)
		fmt.Fprintf(&s, ", %q %x %d of them %x %d", name, b, e, c, f)
	}
	return s.String()
}

func (m *model) state() string {
	var s strings.Builder
	fmt.Fprintf(&s, "used %d", m.used())
	for _, name := range m.names() {
		p := m.find(name)
		fmt.Fprintf(&s, ", %q %x 0 of them %x 0", name, p.all(), p.sure())
	}
	return s.String()
}

// A step is one call.
type step struct {
	kind string
	a, b string
	n    int
	by   byte
	put  []byte
	keep []int
}

func (s step) onDisk(d *disk.Disk) api.Errno {
	switch s.kind {
	case "append":
		return d.Append(s.a, s.put)
	case "sync":
		return d.Sync(s.a)
	case "rename":
		return d.Rename(s.a, s.b)
	case "delete":
		return d.Delete(s.a)
	case "trim":
		return d.Trim(s.a, s.n)
	case "turn":
		return d.Turn(s.a, s.n, s.by)
	}
	d.Crash(s.keep)
	return api.OK
}

func (s step) onModel(m *model) api.Errno {
	switch s.kind {
	case "append":
		return m.append(s.a, s.put)
	case "sync":
		return m.sync(s.a)
	case "rename":
		return m.rename(s.a, s.b)
	case "delete":
		return m.remove(s.a)
	case "trim":
		return m.trim(s.a, s.n)
	case "turn":
		return m.turn(s.a, s.n, s.by)
	}
	m.crash(s.keep)
	return api.OK
}

// agrees does the steps on both, and holds all that they tell side by side.
func agrees(t *testing.T, capacity int, steps []step) {
	t.Helper()
	d, m := disk.New(capacity), newModel(capacity)
	for i, s := range steps {
		got, want := s.onDisk(d), s.onModel(m)
		if got != want {
			t.Fatalf("capacity %d, step %d of %+v: %d, want %d", capacity, i, steps[:i+1], got, want)
		}
		if got, want := state(d), m.state(); got != want {
			t.Fatalf("capacity %d, behind %+v: %s, want %s", capacity, steps[:i+1], got, want)
		}
	}
}

func expect(t *testing.T, what string, got, want api.Errno) {
	t.Helper()
	if got != want {
		t.Errorf("%s: %d, want %d", what, got, want)
	}
}

func expectState(t *testing.T, what string, d *disk.Disk, want string) {
	t.Helper()
	if got := state(d); got != want {
		t.Errorf("%s: %s, want %s", what, got, want)
	}
}

// made is a disk on which these appends are done; a text with a bar has all up
// to there synced.
func made(t *testing.T, capacity int, files map[string]string) *disk.Disk {
	t.Helper()
	d := disk.New(capacity)
	for name, text := range files {
		ahead, behind, bar := strings.Cut(text, "|")
		if d.Append(name, []byte(ahead)) != api.OK || bar && d.Sync(name) != api.OK || d.Append(name, []byte(behind)) != api.OK {
			t.Fatalf("%q isn't made", name)
		}
	}
	return d
}

// told is the disk's files as made takes them.
func told(d *disk.Disk) map[string]string {
	files := map[string]string{}
	for _, name := range d.Names() {
		all, _ := d.Read(name)
		sure, _ := d.Synced(name)
		files[name] = string(sure) + "|" + string(all[len(sure):])
	}
	return files
}

func expectFiles(t *testing.T, what string, d *disk.Disk, want map[string]string) {
	t.Helper()
	got := told(d)
	if fmt.Sprint(got) != fmt.Sprint(want) {
		t.Errorf("%s: %q, want %q", what, got, want)
	}
}

func names() []string {
	return []string{
		"a", "b", "\x00", "\x00\x00", "a\x00", "ab", "A", " ", ".", "..", "/", "a/b", "log.1", "\xff", "\xff\xff", "\x80",
		"gr\u00fc\u00df", strings.Repeat("n", maxName-1), strings.Repeat("n", maxName), strings.Repeat("\u20ac", maxName/3),
		strings.Repeat("\x00", maxName), "~",
	}
}

// noNames are too short or too long, as bytes: the runes of one are few enough.
func noNames() []string {
	return []string{"", strings.Repeat("n", maxName+1), strings.Repeat("\u20ac", maxName/3) + "x", strings.Repeat("\u00fc", 13), strings.Repeat("n", 1000)}
}

// P7.1

func TestNewIsEmpty(t *testing.T) {
	for _, capacity := range []int{math.MinInt, -1, 0, 1, 20, maxDisk, maxDisk + 1, math.MaxInt} {
		d := disk.New(capacity)
		if len(d.Names()) != 0 || d.Used() != 0 {
			t.Errorf("New(%d) has %q, %d bytes", capacity, d.Names(), d.Used())
		}
	}
}

func TestCapacity(t *testing.T) {
	for _, c := range []struct{ capacity, most int }{
		{math.MinInt, 0}, {-maxDisk, 0}, {-1, 0}, {0, 0}, {1, 1}, {2, 2}, {20, 20}, {255, 255}, {65535, 65535},
		{65536, 65536}, {65537, 65536}, {1 << 17, 65536}, {math.MaxInt, 65536},
	} {
		d := disk.New(c.capacity)
		expect(t, "one too many", d.Append("a", make([]byte, c.most+1)), api.ErrFull)
		expectState(t, "nothing is appended", d, "used 0")
		expect(t, "all", d.Append("a", make([]byte, c.most)), api.OK)
		if d.Used() != c.most {
			t.Errorf("New(%d): used %d", c.capacity, d.Used())
		}
		expect(t, "nothing more", d.Append("a", nil), api.OK)
		expect(t, "nothing in another", d.Append("b", []byte{}), api.OK)
		expect(t, "a byte more", d.Append("a", []byte{1}), api.ErrFull)
		expect(t, "a byte more in another", d.Append("b", []byte{1}), api.ErrFull)
		expect(t, "a byte more in a third", d.Append("c", []byte{1}), api.ErrFull)
		if !slices.Equal(d.Names(), []string{"a", "b"}) || d.Used() != c.most {
			t.Errorf("New(%d): %q, %d", c.capacity, d.Names(), d.Used())
		}
	}
}

func TestAppend(t *testing.T) {
	d := disk.New(100)
	expect(t, "nothing", d.Append("empty", nil), api.OK)
	expect(t, "one", d.Append("log", []byte("one")), api.OK)
	expectFiles(t, "not synced", d, map[string]string{"empty": "|", "log": "|one"})
	expect(t, "sync", d.Sync("log"), api.OK)
	expect(t, "two", d.Append("log", []byte("two")), api.OK)
	expect(t, "three", d.Append("log", []byte("three")), api.OK)
	expectFiles(t, "at the end", d, map[string]string{"empty": "|", "log": "one|twothree"})
	expect(t, "full", d.Append("log", make([]byte, 90)), api.ErrFull)
	expect(t, "full, another", d.Append("new", make([]byte, 90)), api.ErrFull)
	expectFiles(t, "nothing is appended", d, map[string]string{"empty": "|", "log": "one|twothree"})
	expect(t, "sync", d.Sync("log"), api.OK)
	expect(t, "sync of nothing", d.Sync("empty"), api.OK)
	expectFiles(t, "all of it", d, map[string]string{"empty": "|", "log": "onetwothree|"})
	if d.Used() != 11 {
		t.Error(d.Used())
	}
}

func TestNames(t *testing.T) {
	d := disk.New(1000)
	for i, name := range names() {
		expect(t, fmt.Sprintf("append to %q", name), d.Append(name, []byte{byte(i)}), api.OK)
		expect(t, fmt.Sprintf("sync of %q", name), d.Sync(name), api.OK)
	}
	want := names()
	sort.Strings(want)
	if !slices.Equal(d.Names(), want) || d.Used() != len(want) {
		t.Errorf("%q, %d, want %q", d.Names(), d.Used(), want)
	}
	for i, name := range names() {
		b, e := d.Read(name)
		if !bytes.Equal(b, []byte{byte(i)}) || e != api.OK {
			t.Errorf("%q: %x, %d", name, b, e)
		}
	}
}

func TestNoNames(t *testing.T) {
	d := made(t, 10, map[string]string{"a": "xy|z"})
	before := state(d)
	for _, name := range noNames() {
		expect(t, "Append", d.Append(name, []byte{1}), api.ErrArg)
		expect(t, "Append of nothing", d.Append(name, nil), api.ErrArg)
		expect(t, "Append of too much", d.Append(name, make([]byte, 100)), api.ErrArg) // named first
		expect(t, "Rename to", d.Rename("a", name), api.ErrArg)
		expect(t, "Rename of", d.Rename(name, "a"), api.ErrArg)
		expect(t, "Rename of to", d.Rename(name, name), api.ErrArg)
		expect(t, "Rename of none to", d.Rename("none", name), api.ErrArg) // named first
		expectNoFile(t, d, name)
	}
	expectState(t, "behind it", d, before)
}

// expectNoFile: of a file that isn't there nothing is told, and nothing made.
func expectNoFile(t *testing.T, d *disk.Disk, name string) {
	t.Helper()
	before := state(d)
	expect(t, "Sync", d.Sync(name), api.ErrNone)
	expect(t, "Delete", d.Delete(name), api.ErrNone)
	for _, n := range []int{0, 1, -1, math.MinInt, math.MaxInt} {
		expect(t, "Trim", d.Trim(name, n), api.ErrNone)
		expect(t, "Turn", d.Turn(name, n, 1), api.ErrNone)
	}
	if b, e := d.Read(name); len(b) != 0 || e != api.ErrNone {
		t.Errorf("Read of %q: %x, %d", name, b, e)
	}
	if b, e := d.Synced(name); len(b) != 0 || e != api.ErrNone {
		t.Errorf("Synced of %q: %x, %d", name, b, e)
	}
	expectState(t, "no file", d, before)
}

func TestNoFile(t *testing.T) {
	for _, d := range []*disk.Disk{disk.New(0), disk.New(10), made(t, 10, map[string]string{"a": "xy|z", "c": "|"})} {
		for _, name := range []string{"b", "A", "a\x00", "aa", "none"} {
			expectNoFile(t, d, name)
			expect(t, "Rename", d.Rename(name, "a"), api.ErrNone)
			expect(t, "Rename to itself", d.Rename(name, name), api.ErrNone)
			expect(t, "Rename to none", d.Rename(name, "other"), api.ErrNone)
			expectNoFile(t, d, name)
		}
	}
}

// A disk that New didn't make has no room, and else is one.
func TestNotOfNew(t *testing.T) {
	var d disk.Disk
	expectNoFile(t, &d, "a")
	d.Crash([]int{1})
	expectState(t, "empty", d.Copy(), "used 0")
	expect(t, "a byte", d.Append("a", []byte{1}), api.ErrFull)
	expect(t, "nothing", d.Append("a", nil), api.OK)
	expect(t, "Rename", d.Rename("a", "b"), api.OK)
	expectFiles(t, "made", &d, map[string]string{"b": "|"})
}

// To count all files anew at each call would take minutes here.
func TestManyFiles(t *testing.T) {
	const many = maxDisk
	d := disk.New(many)
	for i := range many {
		name := fmt.Sprint("f", i)
		if d.Append(name, []byte{byte(i)}) != api.OK || i%2 == 0 && d.Sync(name) != api.OK {
			t.Fatal(name)
		}
	}
	expect(t, "full", d.Append("f0", []byte{1}), api.ErrFull)
	if l := d.Names(); len(l) != many || !slices.IsSorted(l) || d.Used() != many {
		t.Error(len(l), d.Used())
	}
	d.Crash(nil)
	if d.Used() != many/2 || len(d.Names()) != many {
		t.Error(d.Used(), len(d.Names()))
	}
}

// P7.2

func TestRename(t *testing.T) {
	files := map[string]string{"a": "one|two", "b": "three|", "c": "|four", "d": "|"}
	for from := range files {
		for _, to := range append(names(), "c", "d") {
			d := made(t, 20, files)
			want := map[string]string{}
			for name, text := range files {
				if name != from && name != to {
					want[name] = text
				}
			}
			want[to] = files[from]
			expect(t, "Rename", d.Rename(from, to), api.OK)
			expectFiles(t, fmt.Sprintf("Rename(%q, %q)", from, to), d, want)
			if from != to {
				expectNoFile(t, d, from)
			}
			left := 20 - len(strings.Join(values(want), "")) + len(want)
			expect(t, "more than is left", d.Append("new", make([]byte, left+1)), api.ErrFull)
			expect(t, "what is left", d.Append("new", make([]byte, left)), api.OK)
		}
	}
}

func values(m map[string]string) []string {
	var l []string
	for _, v := range m {
		l = append(l, v)
	}
	return l
}

// A file that is renamed is still the same one, and its old name is free.
func TestRenameGoesOn(t *testing.T) {
	d := made(t, 20, map[string]string{"a": "one|two", "b": "gone|"})
	expect(t, "Rename", d.Rename("a", "b"), api.OK)
	expect(t, "Append to the new name", d.Append("b", []byte("!")), api.OK)
	expect(t, "Append to the old name", d.Append("a", []byte("new")), api.OK)
	expectFiles(t, "two files", d, map[string]string{"a": "|new", "b": "one|two!"})
	expect(t, "Rename of no name ahead", d.Rename("a", ""), api.ErrArg)
	expect(t, "Rename to itself", d.Rename("b", "b"), api.OK)
	expectFiles(t, "nothing is changed", d, map[string]string{"a": "|new", "b": "one|two!"})
	d.Crash(nil)
	expectFiles(t, "the name lasts", d, map[string]string{"a": "|", "b": "one|"})
}

func TestDelete(t *testing.T) {
	d := made(t, 10, map[string]string{"a": "one|two", "b": "|", "c": "x|"})
	expect(t, "Delete", d.Delete("a"), api.OK)
	expectFiles(t, "without it", d, map[string]string{"b": "|", "c": "x|"})
	expectNoFile(t, d, "a")
	d.Crash([]int{3})
	expectFiles(t, "it lasts", d, map[string]string{"b": "|", "c": "x|"})
	expect(t, "its bytes are free", d.Append("a", make([]byte, 9)), api.OK)
	expect(t, "no more are", d.Append("a", make([]byte, 1)), api.ErrFull)
	expectFiles(t, "anew", d, map[string]string{"a": "|" + strings.Repeat("\x00", 9), "b": "|", "c": "x|"})
	for _, name := range []string{"a", "b", "c"} {
		expect(t, "Delete", d.Delete(name), api.OK)
	}
	expectState(t, "nothing", d, "used 0")
}

func TestTrim(t *testing.T) {
	for _, c := range []struct {
		text string
		n    int
		want string
	}{
		{"one|two", 6, "one|two"}, {"one|two", 5, "one|tw"}, {"one|two", 4, "one|t"}, {"one|two", 3, "one|"},
		{"one|two", 2, "on|"}, {"one|two", 1, "o|"}, {"one|two", 0, "|"}, {"|two", 2, "|tw"}, {"|two", 0, "|"},
		{"one|", 3, "one|"}, {"one|", 1, "o|"}, {"|", 0, "|"},
	} {
		d := made(t, 8, map[string]string{"a": c.text, "b": "x|y"})
		expect(t, "Trim", d.Trim("a", c.n), api.OK)
		expectFiles(t, fmt.Sprintf("%s to %d", c.text, c.n), d, map[string]string{"a": c.want, "b": "x|y"})
		expect(t, "more than is left", d.Append("a", make([]byte, 7-c.n)), api.ErrFull)
		expect(t, "what is left", d.Append("a", bytes.Repeat([]byte{'z'}, 6-c.n)), api.OK)
		expectFiles(t, "and more", d, map[string]string{"a": c.want + strings.Repeat("z", 6-c.n), "b": "x|y"})
		d.Crash(nil)
		sure, _, _ := strings.Cut(c.want, "|")
		expectFiles(t, "it lasts", d, map[string]string{"a": sure + "|", "b": "x|"})
	}
}

func TestTrimElsewhere(t *testing.T) {
	for _, text := range []string{"one|two", "|two", "one|", "|"} {
		d := made(t, 20, map[string]string{"a": text, "b": "longer|"})
		before := state(d)
		long := len(text) - 1
		for _, n := range []int{math.MinInt, -long, -2, -1, long + 1, long + 2, 20, 1 << 32, math.MaxInt} {
			if n >= 0 && n <= long {
				continue
			}
			expect(t, fmt.Sprintf("%s to %d", text, n), d.Trim("a", n), api.ErrArg)
			expectState(t, "nothing is changed", d, before)
		}
	}
}

func TestTurn(t *testing.T) {
	for at := range 6 {
		for by := range 256 {
			d := made(t, 20, map[string]string{"a": "one|two", "b": "other"})
			want := []byte("onetwo")
			want[at] ^= byte(by)
			expect(t, "Turn", d.Turn("a", at, byte(by)), api.OK)
			expectFiles(t, fmt.Sprintf("%d by %x", at, by), d, map[string]string{"a": string(want[:3]) + "|" + string(want[3:]), "b": "|other"})
			expect(t, "Turn back", d.Turn("a", at, byte(by)), api.OK)
			expectFiles(t, "back", d, map[string]string{"a": "one|two", "b": "|other"})
		}
	}
}

func TestTurnElsewhere(t *testing.T) {
	for _, text := range []string{"one|two", "|two", "one|", "|"} {
		d := made(t, 20, map[string]string{"a": text, "b": "longer|"})
		before := state(d)
		long := len(text) - 1
		for _, at := range []int{math.MinInt, -long, -1, long, long + 1, 1 << 32, math.MaxInt} {
			if at >= 0 && at < long {
				continue
			}
			expect(t, fmt.Sprintf("%s at %d", text, at), d.Turn("a", at, 1), api.ErrArg)
			expect(t, fmt.Sprintf("%s at %d by nothing", text, at), d.Turn("a", at, 0), api.ErrArg)
			expectState(t, "nothing is changed", d, before)
		}
	}
}

// someDisks are ordinary ones and those at the edges.
func someDisks(t *testing.T) []*disk.Disk {
	return []*disk.Disk{
		disk.New(0), disk.New(9), disk.New(maxDisk),
		made(t, 0, map[string]string{"a": "|", "b": ""}),
		made(t, 9, map[string]string{"a": "one|two", "b": "abc"}),
		made(t, 10, map[string]string{"a": "one|two", "b": "|"}),
		made(t, 30, map[string]string{"\xff": "one|two", "\x00": "abc|", "b": "|defg", "c": "|", "d": "h|i"}),
		made(t, maxDisk, map[string]string{"log": strings.Repeat("x", 100) + "|" + strings.Repeat("y", 200), "new": strings.Repeat("z", 30)}),
	}
}

// someSteps do, together, all that can be done.
func someSteps() []step {
	var l []step
	for _, a := range []string{"a", "b", "\x00"} {
		l = append(l,
			step{kind: "append", a: a}, step{kind: "append", a: a, put: []byte("x")}, step{kind: "append", a: a, put: []byte("yz")},
			step{kind: "sync", a: a}, step{kind: "delete", a: a},
			step{kind: "trim", a: a, n: 1}, step{kind: "trim", a: a, n: 2}, step{kind: "trim", a: a},
			step{kind: "turn", a: a, by: 3}, step{kind: "turn", a: a, n: 1, by: 0x80},
			step{kind: "rename", a: a, b: "a"}, step{kind: "rename", a: a, b: "b"})
	}
	for _, keep := range [][]int{nil, {0}, {1}, {-2}, {2, 1}, {0, 1, 2}} {
		l = append(l, step{kind: "crash", keep: keep})
	}
	return l
}

func TestCopy(t *testing.T) {
	for _, d := range someDisks(t) {
		before := state(d)
		c := d.Copy()
		expectState(t, "like it", c, before)
		free, full := 0, maxDisk // as much fits on both
		for free < full {
			half := (free + full + 1) / 2
			if d.Copy().Append("new", make([]byte, half)) == api.OK {
				free = half
			} else {
				full = half - 1
			}
		}
		expect(t, "too much", c.Append("new", make([]byte, free+1)), api.ErrFull)
		expect(t, "as much", c.Append("new", make([]byte, free)), api.OK)
		expectState(t, "the one that was copied", d, before)
	}
}

// Whatever is done on one of the two, the other one stays.
func TestCopyIsOfItsOwn(t *testing.T) {
	for i := range someDisks(t) {
		for _, s := range someSteps() {
			d := someDisks(t)[i]
			before := state(d)
			c := d.Copy()
			first := s.onDisk(c)
			behind := state(c)
			expectState(t, fmt.Sprintf("%+v on the copy", s), d, before)
			if e := s.onDisk(d); e != first || state(d) != behind {
				t.Errorf("%+v: %d, %s; on the copy %d, %s", s, e, state(d), first, behind)
			}
			d = someDisks(t)[i]
			c = d.Copy()
			s.onDisk(d)
			expectState(t, fmt.Sprintf("%+v on the one that was copied", s), c, before)
		}
	}
}

// P7.3

func TestCrashWithoutNumbers(t *testing.T) {
	d := disk.New(10)
	expect(t, "Append", d.Append("log", []byte("one")), api.OK)
	d.Crash(nil)
	expectFiles(t, "an empty file", d, map[string]string{"log": "|"})
	d = made(t, 20, map[string]string{"a": "one|two", "b": "three|", "c": "|four", "d": "|"})
	d.Crash([]int{})
	expectFiles(t, "what is synced", d, map[string]string{"a": "one|", "b": "three|", "c": "|", "d": "|"})
	expect(t, "the rest is free", d.Append("a", make([]byte, 12)), api.OK)
	expect(t, "no more is", d.Append("a", make([]byte, 1)), api.ErrFull)
}

// Each number, with each rest up to 6 bytes.
func TestCrashNumbers(t *testing.T) {
	const text = "abcdef"
	numbers := []int{math.MinInt, math.MinInt + 1, math.MaxInt, math.MaxInt - 1, 1 << 32, -1 << 32, 1<<32 + 1, 1 << 31, -1 << 31}
	for n := -30; n <= 30; n++ {
		numbers = append(numbers, n)
	}
	for sure := range len(text) + 1 {
		rest := len(text) - sure
		for _, n := range numbers {
			d := made(t, 10, map[string]string{"a": text[:sure] + "|" + text[sure:]})
			d.Crash([]int{n})
			want := text[:sure+share(n, rest)]
			expectFiles(t, fmt.Sprintf("rest %d, number %d", rest, n), d, map[string]string{"a": want + "|"})
			if d.Used() != len(want) {
				t.Errorf("used %d", d.Used())
			}
		}
	}
}

func TestCrashByTheLetter(t *testing.T) {
	for _, c := range []struct {
		keep []int
		a, d string // of the rests "bcd" and "fg"
	}{
		{[]int{0, 0}, "", ""}, {[]int{1, 1}, "b", "f"}, {[]int{2, 2}, "bc", "fg"}, {[]int{3, 3}, "bcd", ""}, {[]int{4, 4}, "", "f"},
		{[]int{-1, -2}, "b", "fg"}, {[]int{-3, -3}, "bcd", ""}, {[]int{-4, -5}, "", "fg"}, {[]int{2}, "bc", ""}, {[]int{}, "", ""},
		{[]int{0, 2}, "", "fg"}, {[]int{3, 2, 1, 1}, "bcd", "fg"}, {[]int{math.MinInt, math.MinInt}, "", "fg"},
		{[]int{math.MaxInt, math.MaxInt}, "bcd", "f"},
	} {
		// The files between have nothing that isn't synced: they take no number.
		d := made(t, 20, map[string]string{"a": "a|bcd", "b": "x|", "c": "|", "d": "e|fg", "e": "y|"})
		d.Crash(c.keep)
		expectFiles(t, fmt.Sprint(c.keep), d, map[string]string{"a": "a" + c.a + "|", "b": "x|", "c": "|", "d": "e" + c.d + "|", "e": "y|"})
	}
}

// The numbers go by the names, not by which file was made first.
func TestCrashGoesByNames(t *testing.T) {
	l := names()
	want := names()
	sort.Strings(want)
	for turn := range 5 {
		d := disk.New(1000)
		for i := range l {
			expect(t, "Append", d.Append(l[(i+turn*4)%len(l)], make([]byte, 30)), api.OK)
		}
		var keep []int
		for i := range want {
			keep = append(keep, i+1)
		}
		d.Crash(keep)
		for i, name := range want {
			if b, _ := d.Synced(name); len(b) != i+1 {
				t.Errorf("%q has %d bytes, want %d", name, len(b), i+1)
			}
		}
	}
}

// P7.1 to P7.3, together

func TestEachStepBehindEachOther(t *testing.T) {
	l := someSteps()
	for _, first := range l {
		for _, second := range l {
			for _, third := range l {
				agrees(t, 4, []step{{kind: "append", a: "a", put: []byte("ab")}, first, second, third})
			}
		}
	}
}

// stepOf is a step of what bytes say; what is left of them.
func stepOf(b []byte) (step, []byte) {
	next := func() int {
		if len(b) == 0 {
			return 0
		}
		n := int(b[0])
		b = b[1:]
		return n
	}
	names := []string{"a", "b", "c", "ab", "\xff", "", strings.Repeat("n", maxName), strings.Repeat("n", maxName+1)}
	kinds := []string{"append", "append", "append", "sync", "rename", "delete", "trim", "turn", "crash"}
	s := step{kind: kinds[next()%len(kinds)], a: names[next()%len(names)]}
	switch s.kind {
	case "append":
		s.put = bytes.Repeat([]byte{byte(next())}, next()%12)
	case "rename":
		s.b = names[next()%len(names)]
	case "trim":
		s.n = next()%20 - 2
	case "turn":
		s.n, s.by = next()%20-2, byte(next())
	case "crash":
		for range next() % 5 {
			s.keep = append(s.keep, int(int8(next())))
		}
		if len(s.keep) == 4 {
			s.keep[0] = math.MinInt
		}
	}
	return s, b
}

func allSteps(b []byte) []step {
	var l []step
	for len(b) > 0 {
		var s step
		s, b = stepOf(b)
		l = append(l, s)
	}
	return l
}

func TestWhateverSteps(t *testing.T) {
	r := rand.New(rand.NewSource(7))
	for i := range 3000 {
		b := make([]byte, 20+r.Intn(200))
		r.Read(b)
		agrees(t, []int{0, 5, 30, 100, maxDisk}[i%5], allSteps(b))
	}
}

func FuzzSteps(f *testing.F) {
	for capacity := range 40 {
		f.Add(capacity, binary.BigEndian.AppendUint64([]byte{0, 0, 1, 2}, uint64(capacity)*0x0123456789abcdef))
	}
	f.Fuzz(func(t *testing.T, capacity int, b []byte) {
		agrees(t, capacity, allSteps(b[:min(len(b), 500)]))
	})
}

// P7.4

// expectBeginnings: each file is a beginning of what it was, with all that was
// synced, and there are no other files.
func expectBeginnings(t *testing.T, was, d *disk.Disk) {
	t.Helper()
	if !slices.Equal(was.Names(), d.Names()) {
		t.Fatalf("%q, were %q", d.Names(), was.Names())
	}
	sum := 0
	for _, name := range d.Names() {
		all, _ := was.Read(name)
		sure, _ := was.Synced(name)
		b, _ := d.Read(name)
		c, _ := d.Synced(name)
		if !bytes.HasPrefix(all, b) || !bytes.HasPrefix(b, sure) || !bytes.Equal(b, c) {
			t.Fatalf("%q: %q, of which %q is synced; was %q, %q", name, b, c, all, sure)
		}
		sum += len(b)
	}
	if d.Used() != sum || d.Used() > was.Used() {
		t.Fatalf("used %d, %d ahead, %d counted", d.Used(), was.Used(), sum)
	}
}

func someNumbers() [][]int {
	return [][]int{
		nil, {}, {0}, {1}, {-1}, {2, 3, 4}, {-7, 5}, {1, 0, 1, 0, 1, 0}, {1000, 1001, 1002}, {math.MinInt, math.MinInt, math.MinInt},
		{math.MaxInt, math.MaxInt, math.MaxInt}, {math.MinInt + 1, math.MaxInt - 1}, make([]int, 1000),
	}
}

func TestBehindACrash(t *testing.T) {
	disks := someDisks(t)
	r := rand.New(rand.NewSource(4))
	for range 500 {
		b := make([]byte, 100)
		r.Read(b)
		d := disk.New(200)
		for _, s := range allSteps(b) {
			s.onDisk(d)
		}
		disks = append(disks, d)
	}
	for _, d := range disks {
		for _, keep := range someNumbers() {
			c := d.Copy()
			c.Crash(keep)
			expectBeginnings(t, d, c)
			behind := state(c)
			for _, again := range someNumbers() {
				c.Crash(again)
				expectState(t, "a second crash", c, behind)
			}
		}
	}
}

// Each length that a file may have behind a crash is that of some number.
func TestEveryBeginning(t *testing.T) {
	for long := range 40 {
		for n := range long + 1 {
			d := made(t, 100, map[string]string{"a": "sure|" + strings.Repeat("r", long), "b": "|x"})
			d.Crash([]int{n})
			expectFiles(t, "first", d, map[string]string{"a": "sure" + strings.Repeat("r", n) + "|", "b": "|"})
		}
	}
}

// A disk that crashed goes on.
func TestBehindACrashGoesOn(t *testing.T) {
	d := made(t, 12, map[string]string{"a": "one|two", "b": "four"})
	d.Crash([]int{1, 2})
	expect(t, "Append", d.Append("a", []byte("more")), api.OK)
	expectFiles(t, "and more", d, map[string]string{"a": "onet|more", "b": "fo|"})
	expect(t, "full", d.Append("b", []byte("xyz")), api.ErrFull)
	d.Crash([]int{2})
	expectFiles(t, "once more", d, map[string]string{"a": "onetmo|", "b": "fo|"})
}

// P7.5

func fill(b []byte) {
	for i := range b[:cap(b)] {
		b[:cap(b)][i] = 99
	}
}

func TestWhatIsHandedInStays(t *testing.T) {
	wide := []byte("abcdefgh")
	d := disk.New(100)
	expect(t, "Append", d.Append("a", wide[:3]), api.OK)
	expect(t, "Append", d.Append("b", wide[:3]), api.OK)
	expect(t, "Append", d.Append("a", wide[4:6]), api.OK)
	expect(t, "Turn", d.Turn("a", 0, 0xff), api.OK)
	if string(wide) != "abcdefgh" {
		t.Errorf("%q", wide)
	}
	before := state(d)
	fill(wide)
	expectState(t, "what was handed in is other now", d, before)
	keep := []int{-7, 3, math.MinInt, 5}
	c := d.Copy()
	d.Crash(keep[:3])
	if !slices.Equal(keep, []int{-7, 3, math.MinInt, 5}) {
		t.Error(keep)
	}
	behind := state(d)
	for i := range keep {
		keep[i] = 1
	}
	expectState(t, "the numbers are other now", d, behind)
	c.Crash([]int{-7, 3, math.MinInt})
	expectState(t, "the same numbers", c, behind)
}

func TestWhatIsToldIsNewMemory(t *testing.T) {
	for _, d := range someDisks(t) {
		before := state(d)
		for _, name := range d.Names() {
			first, _ := d.Read(name)
			second, _ := d.Read(name)
			sure, _ := d.Synced(name)
			sureAgain, _ := d.Synced(name)
			was, sureWas := slices.Clone(second), slices.Clone(sureAgain)
			fill(first)
			fill(append(first, 1, 2, 3))
			fill(sure)
			fill(append(sure, 1, 2, 3))
			if !bytes.Equal(second, was) || !bytes.Equal(sureAgain, sureWas) {
				t.Errorf("%q: two answers share memory", name)
			}
			expectState(t, "the answers are other now", d, before)
		}
		l, again := d.Names(), d.Names()
		was := slices.Clone(again)
		for i := range l {
			l[i] = "other"
		}
		_ = append(l, "more")
		if !slices.Equal(again, was) || !slices.Equal(d.Names(), was) {
			t.Errorf("%q, was %q", d.Names(), was)
		}
		expectState(t, "the names are other now", d, before)
	}
}

// What was answered stays, whatever is done then.
func TestAnswersStay(t *testing.T) {
	for i := range someDisks(t) {
		for _, s := range someSteps() {
			d := someDisks(t)[i]
			names := d.Names()
			var reads, sures [][]byte
			for _, name := range names {
				b, _ := d.Read(name)
				c, _ := d.Synced(name)
				reads, sures = append(reads, b), append(sures, c)
			}
			before := fmt.Sprint(names, reads, sures)
			s.onDisk(d)
			s.onDisk(d)
			if after := fmt.Sprint(names, reads, sures); after != before {
				t.Errorf("%+v: %s, was %s", s, after, before)
			}
		}
	}
}
