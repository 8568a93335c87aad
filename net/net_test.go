package net_test

import (
	"fmt"
	"math"
	"math/rand"
	"reflect"
	"slices"
	"sort"
	"testing"

	"shardlog/api"
	"shardlog/net"
)

const most = 500

// The words of the chapter once more: a list in the order of sending, in which the next
// one is looked for from end to end, and which is sorted for the places.

type item struct {
	m   api.Msg
	due int
}

type model struct {
	sent []item
}

func (d *model) send(m api.Msg, due int) bool {
	if len(d.sent) == most {
		return false
	}
	d.sent = append(d.sent, item{m, due})
	return true
}

func (d *model) next() (api.Msg, int, bool) {
	if len(d.sent) == 0 {
		return api.Msg{}, 0, false
	}
	first := 0
	for i, x := range d.sent {
		if x.due < d.sent[first].due {
			first = i
		}
	}
	x := d.sent[first]
	d.take(first)
	return x.m, x.due, true
}

func (d *model) take(i int) {
	d.sent = append(slices.Clone(d.sent[:i]), d.sent[i+1:]...)
}

// places are, in order of Next, the places in the list.
func (d *model) places() []int {
	var l []int
	for i := range d.sent {
		l = append(l, i)
	}
	sort.SliceStable(l, func(i, j int) bool { return d.sent[l[i]].due < d.sent[l[j]].due })
	return l
}

func (d *model) all() []item {
	var l []item
	for _, i := range d.places() {
		l = append(l, d.sent[i])
	}
	return l
}

func (d *model) drop(i int) bool {
	if i < 0 || i >= len(d.sent) {
		return false
	}
	d.take(d.places()[i])
	return true
}

func (d *model) twice(i, due int) bool {
	if i < 0 || i >= len(d.sent) {
		return false
	}
	return d.send(d.sent[d.places()[i]].m, due)
}

func between(m api.Msg, a, b int) bool {
	return m.From == a && m.To == b || m.From == b && m.To == a
}

func (d *model) cut(a, b int) int {
	var l []item
	for _, x := range d.sent {
		if !between(x.m, a, b) {
			l = append(l, x)
		}
	}
	n := len(d.sent) - len(l)
	d.sent = l
	return n
}

// inFull is the message with an empty list in the place of none: these are one.
func inFull(m api.Msg) api.Msg {
	m.Votes = append([]api.Vote{}, m.Votes...)
	return m
}

func same(a, b api.Msg) bool { return reflect.DeepEqual(inFull(a), inFull(b)) }

func sameAll(a, b []item) bool {
	return slices.EqualFunc(a, b, func(x, y item) bool { return x.due == y.due && same(x.m, y.m) })
}

// nothing tells that there is no message.
func nothing(m api.Msg) bool { return same(m, api.Msg{}) }

// say is a list in a report: who sent to whom, the ballots and the times.
func say(l []item) string {
	s := ""
	for i, x := range l {
		if i == 40 {
			return fmt.Sprintf("%s .. of %d", s, len(l))
		}
		s += fmt.Sprintf(" %d>%d:%d@%d", x.m.From, x.m.To, x.m.Ballot, x.due)
	}
	return "(" + s + " )"
}

// drain takes out all, and looks at what Len and Next say meanwhile.
func drain(t *testing.T, p *net.Pool) []item {
	t.Helper()
	var l []item
	for n := p.Len(); n > 0; n-- {
		m, due, ok := p.Next()
		if !ok || p.Len() != n-1 {
			t.Fatalf("Next of %d: %v, then %d", n, ok, p.Len())
		}
		l = append(l, item{m, due})
	}
	for range 2 {
		if m, due, ok := p.Next(); !nothing(m) || due != 0 || ok || p.Len() != 0 {
			t.Fatalf("Next of none: %+v, %d, %v, then %d", m, due, ok, p.Len())
		}
	}
	return l
}

// expectAll holds what comes of the pool against a list. The pool is empty then.
func expectAll(t *testing.T, what string, p *net.Pool, want []item) {
	t.Helper()
	if got := drain(t, p); !sameAll(got, want) {
		t.Errorf("%s: %s, want %s", what, say(got), say(want))
	}
}

// expectWay does the same by a copy: the pool stays.
func expectWay(t *testing.T, what string, p *net.Pool, want []item) {
	t.Helper()
	if p.Len() != len(want) {
		t.Errorf("%s: Len %d, want %d", what, p.Len(), len(want))
	}
	expectAll(t, what, p.Copy(), want)
}

func expect[T comparable](t *testing.T, what string, got, want T) {
	t.Helper()
	if got != want {
		t.Errorf("%s: %v, want %v", what, got, want)
	}
}

// numbered is a message that is told from others by its ballot.
func numbered(n int) api.Msg {
	return api.Msg{Kind: api.MsgPrepare, From: n % 3, To: n % 5, Ballot: n}
}

// ballots are those of a list.
func ballots(l []item) []int {
	b := []int{}
	for _, x := range l {
		b = append(b, x.m.Ballot)
	}
	return b
}

// A pair is a pool and the words of the chapter, of which the same is asked.
type pair struct {
	t    *testing.T
	pool *net.Pool
	says *model
}

// made are pairs to which numbered messages were sent, for these times.
func made(t *testing.T, dues ...int) *pair {
	p := &pair{t, net.New(), &model{}}
	for i, due := range dues {
		p.send(numbered(i+1), due)
	}
	return p
}

func (p *pair) send(m api.Msg, due int) {
	p.t.Helper()
	expect(p.t, fmt.Sprintf("Send of %d for %d", m.Ballot, due), p.pool.Send(m, due), p.says.send(m, due))
}

func (p *pair) next() {
	p.t.Helper()
	m, due, ok := p.pool.Next()
	wantM, wantDue, wantOk := p.says.next()
	if !same(m, wantM) || due != wantDue || ok != wantOk {
		p.t.Errorf("Next = %+v, %d, %v, want %+v, %d, %v", m, due, ok, wantM, wantDue, wantOk)
	}
}

func (p *pair) drop(i int) {
	p.t.Helper()
	expect(p.t, fmt.Sprintf("Drop(%d) of %d", i, len(p.says.sent)), p.pool.Drop(i), p.says.drop(i))
}

func (p *pair) twice(i, due int) {
	p.t.Helper()
	expect(p.t, fmt.Sprintf("Twice(%d, %d) of %d", i, due, len(p.says.sent)), p.pool.Twice(i, due), p.says.twice(i, due))
}

func (p *pair) cut(a, b int) {
	p.t.Helper()
	expect(p.t, fmt.Sprintf("Cut(%d, %d)", a, b), p.pool.Cut(a, b), p.says.cut(a, b))
}

// goOn goes on with a copy, whatever becomes of the one that was copied.
func (p *pair) goOn() {
	old := p.pool
	p.pool = old.Copy()
	old.Drop(0)
	old.Send(numbered(999), -5)
	old.Cut(0, 1)
	drain(p.t, old)
}

func (p *pair) way(what string) {
	p.t.Helper()
	expectWay(p.t, what, p.pool, p.says.all())
}

// end is the same, of the pool itself.
func (p *pair) end(what string) {
	p.t.Helper()
	expectAll(p.t, what, p.pool, p.says.all())
	p.says.sent = nil
}

// edges are times, some of which are further from each other than an int tells.
func edges() []int {
	return []int{math.MinInt, math.MinInt + 1, -1 << 32, -1 << 31, -3, -1, 0, 1, 2, 3, 1 << 31, 1 << 32, 1<<32 + 1, math.MaxInt - 1, math.MaxInt}
}

// manyTimes are n times, many of them alike.
func manyTimes(n int) []int {
	var l []int
	for i := range n {
		l = append(l, i*i*7919%61-20)
	}
	return l
}

// lists are all lists of up to n of the times 0, 1 and 2.
func lists(n int) [][]int {
	all := [][]int{nil}
	for from := 0; n > 0; n-- {
		to := len(all)
		for _, l := range all[from:to] {
			for due := range 3 {
				all = append(all, append(slices.Clone(l), due))
			}
		}
		from = to
	}
	return all
}

// P20.1

func TestNew(t *testing.T) {
	p, other := net.New(), net.New()
	for range 2 {
		expectWay(t, "new", p, nil)
		expect(t, "Drop", p.Drop(0), false)
		expect(t, "Twice", p.Twice(0, 1), false)
		expect(t, "Cut", p.Cut(0, 0), 0)
		expectAll(t, "new", p, nil)
	}
	expect(t, "Send", p.Send(numbered(1), 0), true)
	expect(t, "Len", p.Len(), 1)
	expectAll(t, "another one", other, nil)
	expectAll(t, "the one", p, []item{{numbered(1), 0}})
	expectAll(t, "empty again", p, nil)
}

func TestExample(t *testing.T) {
	p := net.New()
	p.Send(numbered(1), 5)
	p.Send(numbered(2), 3)
	m, due, ok := p.Next()
	if m.Ballot != 2 || due != 3 || !ok {
		t.Error(m, due, ok)
	}
	m, due, ok = p.Next()
	if m.Ballot != 1 || due != 5 || !ok {
		t.Error(m, due, ok)
	}
}

func TestNextByTheLetter(t *testing.T) {
	for _, c := range []struct{ dues, want []int }{
		{[]int{}, []int{}},
		{[]int{0}, []int{1}},
		{[]int{1, 2}, []int{1, 2}}, {[]int{2, 1}, []int{2, 1}}, {[]int{4, 4}, []int{1, 2}},
		{[]int{-1, -2}, []int{2, 1}}, {[]int{0, -1}, []int{2, 1}}, {[]int{-1, 1}, []int{1, 2}},
		{[]int{5, 3, 5, 1, 3, -2}, []int{6, 4, 2, 5, 1, 3}},
		{[]int{9, 8, 7, 6, 5, 4, 3}, []int{7, 6, 5, 4, 3, 2, 1}},
		{[]int{1, 1, 0, 1, 0, 1, 0}, []int{3, 5, 7, 1, 2, 4, 6}},
		{[]int{7, 7, 7, 7, 7, 7, 7, 7, 7}, []int{1, 2, 3, 4, 5, 6, 7, 8, 9}},
		{[]int{10, 9, 100, 99, 9, 10}, []int{2, 5, 1, 6, 4, 3}},
	} {
		p := net.New()
		for i, due := range c.dues {
			expect(t, "Send", p.Send(numbered(i+1), due), true)
		}
		if got := ballots(drain(t, p)); !slices.Equal(got, c.want) {
			t.Errorf("%d: %d, want %d", c.dues, got, c.want)
		}
	}
}

func TestNextOverAllShortLists(t *testing.T) {
	for _, l := range lists(7) {
		made(t, l...).end(fmt.Sprint(l))
	}
}

func TestTimesAtTheEdges(t *testing.T) {
	for _, a := range edges() {
		for _, b := range edges() {
			for _, c := range edges() {
				made(t, a, b, c).end(fmt.Sprint(a, b, c))
			}
		}
	}
	made(t, edges()...).end("all")
}

// Those that are alike come as they were sent, also if there are many, and if some of
// them were taken out meanwhile.
func TestLikeTimes(t *testing.T) {
	for _, n := range []int{2, 3, 10, 100, 257, most} {
		made(t, make([]int, n)...).end(fmt.Sprint(n))
		made(t, manyTimes(n)...).end(fmt.Sprint(n, "of many times"))
	}
	p := made(t)
	for i := range 3000 {
		p.send(numbered(i), i%2)
		p.send(numbered(i), 1)
		p.next()
		if i%3 == 0 {
			p.next()
		}
		if p.pool.Len() > 300 {
			p.end("many")
		}
	}
	p.end("at last")
}

// What is sent for a time ahead of one that came already comes next, all the same.
func TestTimesOfThePast(t *testing.T) {
	p := made(t, 10, 20, 30)
	p.next()
	p.send(numbered(7), 5)
	p.send(numbered(8), 10)
	p.send(numbered(9), 20)
	if got := ballots(drain(t, p.pool.Copy())); !slices.Equal(got, []int{7, 8, 2, 9, 3}) {
		t.Error(got)
	}
	p.end("all")
}

// messages are such as may be sent, and others: a pool doesn't ask.
func messages() []api.Msg {
	vote := api.Vote{Slot: 5, Ballot: 11, Origin: 3, Full: true, Bytes: "value"}
	other := api.Vote{Slot: 63, Ballot: 8, Origin: 8, Bytes: "\x00\xff"}
	return []api.Msg{
		{},
		{Kind: api.MsgPrepare, From: 3, To: 5, Ballot: 258},
		{Kind: api.MsgPromise, From: 6, Ballot: 12, Votes: []api.Vote{vote, other}},
		{Kind: api.MsgPromise, Ballot: 12, Votes: []api.Vote{}},
		{Kind: api.MsgPromise, Ballot: 12, Votes: []api.Vote{other, vote, {}, vote, vote}},
		{Kind: api.MsgAccept, From: 2, To: 4, Ballot: 11, Vote: vote},
		{Kind: api.MsgAccepted, From: 1, To: 2, Ballot: 8, Slot: 63},
		{Kind: api.MsgRefuse, To: 6, Ballot: api.MaxBallot},
		{Kind: 9, From: -1, To: 7, Ballot: -3, Slot: 64, Vote: vote, Votes: []api.Vote{{}}},
		{Kind: math.MinInt, From: math.MaxInt, To: math.MinInt, Ballot: math.MaxInt, Slot: math.MinInt, Vote: api.Vote{Slot: -1, Ballot: -2, Origin: -3, Bytes: string(make([]byte, 1000))}},
	}
}

func TestMessagesComeWhole(t *testing.T) {
	for _, m := range messages() {
		for _, due := range []int{-7, 0, 12} {
			p := net.New()
			expect(t, "Send", p.Send(m, due), true)
			expectWay(t, "one", p, []item{{m, due}})
			expect(t, "Twice", p.Twice(0, due), true)
			expectAll(t, "doubled", p, []item{{m, due}, {m, due}})
		}
	}
	p := made(t)
	for turn := range 4 {
		for i, m := range messages() {
			p.send(m, i*(turn-1)%4)
		}
		p.way("all")
	}
	for i := range p.pool.Len() {
		p.twice(2*i, i%5)
	}
	p.end("all, doubled")
}

func TestFull(t *testing.T) {
	p := net.New()
	for i := range most {
		expect(t, "Len", p.Len(), i)
		expect(t, "Send", p.Send(numbered(i), 3), true)
	}
	for _, due := range edges() {
		expect(t, "one too many", p.Send(numbered(9999), due), false)
		expect(t, "Len", p.Len(), most)
	}
	var want []item
	for i := range most {
		want = append(want, item{numbered(i), 3})
	}
	expectWay(t, "what is lost is lost", p, want)
	if m, _, ok := p.Next(); m.Ballot != 0 || !ok {
		t.Error(m, ok)
	}
	expect(t, "room for one", p.Send(numbered(7000), 3), true)
	expect(t, "and for no other", p.Send(numbered(9999), 3), false)
	expectAll(t, "all", p, append(want[1:], item{numbered(7000), 3}))
	expect(t, "empty", p.Send(numbered(1), 0), true)
}

// Whatever takes one out makes room for one, and no more.
func TestRoom(t *testing.T) {
	for what, out := range map[string]func(p *pair){
		"Next": (*pair).next,
		"Drop": func(p *pair) { p.drop(123) },
		"Cut":  func(p *pair) { p.cut(5, 6) },
		"Copy": func(p *pair) { p.goOn(); p.next() },
	} {
		for _, again := range []func(p *pair){
			func(p *pair) { p.send(numbered(600), 4) },
			func(p *pair) { p.twice(77, 4) },
		} {
			p := made(t, manyTimes(most-1)...)
			p.send(api.Msg{From: 6, To: 5, Ballot: 555}, 4)
			expect(t, "full", p.pool.Len(), most)
			again(p)
			p.way("full")
			out(p)
			expect(t, what, p.pool.Len(), most-1)
			again(p)
			expect(t, what+", one more", p.pool.Len(), most)
			again(p)
			p.end(what)
		}
	}
}

func TestCopy(t *testing.T) {
	for _, dues := range [][]int{nil, {3}, {2, 1}, {5, 3, 5, 1, 3, -2}, edges(), manyTimes(50), manyTimes(most)} {
		p := made(t, dues...)
		c := p.pool.Copy()
		expect(t, "Len", c.Len(), p.pool.Len())
		expectAll(t, "the copy", c, p.says.all())
		p.way("the one that was copied")
		c = p.pool.Copy().Copy()
		expectAll(t, "the copy's copy", c, p.says.all())
		p.end("the one that was copied")
	}
}

// A copy goes on as the one that was copied: what is sent for like times comes behind
// what is there, and there is room for as many.
func TestCopyGoesOn(t *testing.T) {
	for _, dues := range [][]int{nil, {3}, {2, 1, 2}, {5, 3, 5, 1, 3, -2}, manyTimes(50), manyTimes(most - 2)} {
		p := made(t, dues...)
		p.next()
		for i := range 4 {
			p.goOn()
			p.send(numbered(600+i), i%2+1)
			p.twice(i, 1)
			p.way(fmt.Sprint(dues))
		}
		p.goOn()
		p.end(fmt.Sprint(dues))
	}
}

// deeds are all that can be done to a pool.
func deeds() []func(p *net.Pool) {
	return []func(p *net.Pool){
		func(p *net.Pool) { p.Send(numbered(77), 2) },
		func(p *net.Pool) { p.Send(numbered(77), -9) },
		func(p *net.Pool) { p.Next() },
		func(p *net.Pool) { p.Drop(0) },
		func(p *net.Pool) { p.Drop(2) },
		func(p *net.Pool) { p.Twice(1, 2) },
		func(p *net.Pool) { p.Twice(0, -9) },
		func(p *net.Pool) { p.Cut(1, 1) },
		func(p *net.Pool) { p.Cut(0, 3) },
		func(p *net.Pool) { p.Cut(2, 2) },
	}
}

// Whatever is done to one of the two, the other one stays.
func TestCopyIsOfItsOwn(t *testing.T) {
	for _, dues := range [][]int{{}, {3}, {2, 1}, {5, 3, 5, 1, 3, -2}, manyTimes(33), manyTimes(most)} {
		for _, first := range deeds() {
			for _, second := range deeds() {
				p := made(t, dues...)
				c := p.pool.Copy()
				first(c)
				second(c)
				p.way("the one that was copied")
				c = p.pool.Copy()
				first(p.pool)
				second(p.pool)
				expectAll(t, "the copy", c, p.says.all())
			}
		}
	}
}

// P20.2

func TestPlacesByTheLetter(t *testing.T) {
	// in order: 6 (-2), 4 (1), 2 (3), 5 (3), 1 (5), 3 (5)
	dues := []int{5, 3, 5, 1, 3, -2}
	for i, want := range [][]int{{4, 2, 5, 1, 3}, {6, 2, 5, 1, 3}, {6, 4, 5, 1, 3}, {6, 4, 2, 1, 3}, {6, 4, 2, 5, 3}, {6, 4, 2, 5, 1}} {
		p := made(t, dues...).pool
		expect(t, "Drop", p.Drop(i), true)
		if got := ballots(drain(t, p)); !slices.Equal(got, want) {
			t.Errorf("Drop(%d): %d, want %d", i, got, want)
		}
	}
	for i, want := range [][]int{{6, 4, 2, 5, 6, 1, 3}, {6, 4, 2, 5, 4, 1, 3}, {6, 4, 2, 5, 2, 1, 3}, {6, 4, 2, 5, 5, 1, 3}, {6, 4, 2, 5, 1, 1, 3}, {6, 4, 2, 5, 3, 1, 3}} {
		p := made(t, dues...).pool
		expect(t, "Twice", p.Twice(i, 3), true)
		if got := ballots(drain(t, p)); !slices.Equal(got, want) {
			t.Errorf("Twice(%d, 3): %d, want %d", i, got, want)
		}
	}
	for due, want := range map[int][]int{-3: {5, 6, 4, 2, 5, 1, 3}, -2: {6, 5, 4, 2, 5, 1, 3}, 1: {6, 4, 5, 2, 5, 1, 3}, 4: {6, 4, 2, 5, 5, 1, 3}, 5: {6, 4, 2, 5, 1, 3, 5}, 6: {6, 4, 2, 5, 1, 3, 5}} {
		p := made(t, dues...).pool
		expect(t, "Twice", p.Twice(3, due), true)
		if got := ballots(drain(t, p)); !slices.Equal(got, want) {
			t.Errorf("Twice(3, %d): %d, want %d", due, got, want)
		}
	}
}

func TestEachPlace(t *testing.T) {
	all := append(lists(5), edges(), manyTimes(31), manyTimes(100))
	for _, l := range all {
		for i := range l {
			p := made(t, l...)
			p.drop(i)
			p.end(fmt.Sprint(l, " without ", i))
			for due := -1; due <= 3; due++ {
				p = made(t, l...)
				p.twice(i, due)
				p.end(fmt.Sprint(l, " and ", i, " for ", due))
			}
		}
	}
}

func TestEachPlaceOfAFullOne(t *testing.T) {
	full := made(t, manyTimes(most)...)
	for i := range most {
		p := &pair{t, full.pool.Copy(), &model{full.says.sent}}
		p.twice(i, 4)
		p.drop(i)
		p.twice((i+250)%(most-1), 4)
		p.end(fmt.Sprint(i))
	}
	full.end("the one that was copied")
}

func TestNoSuchPlace(t *testing.T) {
	for _, n := range []int{0, 1, 2, 3, 64, most} {
		p := made(t, manyTimes(n)...)
		for _, i := range []int{math.MinInt, -1 << 32, -n - 1, -n, -2, -1, n, n + 1, n + 64, 1 << 16, 1 << 32, 1<<32 + 1, math.MaxInt} {
			if i >= 0 && i < n {
				continue
			}
			expect(t, fmt.Sprintf("Drop(%d) of %d", i, n), p.pool.Drop(i), false)
			for _, due := range []int{math.MinInt, -1, 0, 1, math.MaxInt} {
				expect(t, fmt.Sprintf("Twice(%d, %d) of %d", i, due, n), p.pool.Twice(i, due), false)
			}
			p.way("nothing is changed")
		}
		p.end("nothing is changed")
	}
}

func TestTwiceOfAFullOne(t *testing.T) {
	p := made(t, manyTimes(most-1)...)
	expect(t, "room for one", p.pool.Twice(3, 2), true)
	p.says.twice(3, 2)
	p.way("full")
	for i := range most {
		expect(t, "one too many", p.pool.Twice(i, -i), false)
		expect(t, "Len", p.pool.Len(), most)
	}
	p.end("what is lost is lost")
}

// What was doubled may be so again, and be dropped, each by itself.
func TestTwiceAgain(t *testing.T) {
	p := made(t, 4)
	for i := range 200 {
		p.twice(i/2, 4+i%3)
	}
	p.way("200 more")
	for i := range 90 {
		p.drop(i)
		p.twice(i, -i)
		p.drop(p.pool.Len() - 1)
	}
	p.end("all")
}

func TestDropAll(t *testing.T) {
	for _, from := range []int{0, 1, 7, 49} {
		p := made(t, manyTimes(50)...)
		for p.pool.Len() > 0 {
			n := p.pool.Len()
			p.drop(min(from, n-1))
			expect(t, "Len", p.pool.Len(), n-1)
			p.way("the others")
		}
		p.end("none")
	}
}

// crossed is a pair with n messages from each of -1 to 7 to each, in no order of theirs.
func crossed(t *testing.T, n int) *pair {
	p := made(t)
	for i := range 81 * n {
		at := i * 50 % 81
		p.send(api.Msg{Kind: api.MsgPrepare, From: at/9 - 1, To: at%9 - 1, Ballot: i}, i*i%7)
	}
	return p
}

func TestCutByTheLetter(t *testing.T) {
	for _, c := range []struct {
		a, b, n int
		want    []int
	}{
		{0, 1, 3, []int{4, 5, 6}}, {1, 0, 3, []int{4, 5, 6}}, {1, 2, 1, []int{1, 2, 3, 5, 6}}, {2, 1, 1, []int{1, 2, 3, 5, 6}},
		{2, 2, 1, []int{1, 2, 3, 4, 6}}, {0, 0, 1, []int{1, 2, 3, 4, 5}}, {1, 1, 0, []int{1, 2, 3, 4, 5, 6}},
		{0, 2, 0, []int{1, 2, 3, 4, 5, 6}}, {3, 0, 0, []int{1, 2, 3, 4, 5, 6}}, {-1, 1, 0, []int{1, 2, 3, 4, 5, 6}},
	} {
		p := net.New()
		for i, m := range []api.Msg{{From: 0, To: 1}, {From: 1, To: 0}, {From: 0, To: 1}, {From: 2, To: 1}, {From: 2, To: 2}, {}} {
			m.Ballot = i + 1
			expect(t, "Send", p.Send(m, 7), true)
		}
		expect(t, fmt.Sprintf("Cut(%d, %d)", c.a, c.b), p.Cut(c.a, c.b), c.n)
		expect(t, "Len", p.Len(), len(c.want))
		if got := ballots(drain(t, p)); !slices.Equal(got, c.want) {
			t.Errorf("Cut(%d, %d): %d, want %d", c.a, c.b, got, c.want)
		}
	}
}

func TestCutBetweenAll(t *testing.T) {
	for _, n := range []int{1, 2, 6} {
		full := crossed(t, n)
		for a := -2; a <= 8; a++ {
			for b := -2; b <= 8; b++ {
				p := &pair{t, full.pool.Copy(), &model{full.says.sent}}
				p.cut(a, b)
				p.way(fmt.Sprintf("between %d and %d", a, b))
				p.cut(b, a)
				p.send(numbered(600), 3)
				p.cut(a, 2)
				p.end(fmt.Sprintf("between %d and %d, and %d and 2", a, b, a))
			}
		}
	}
}

func TestCutTillNoneIsLeft(t *testing.T) {
	p := crossed(t, 6)
	sum := 0
	for a := -1; a <= 7; a++ {
		for b := -1; b <= a; b++ {
			n := p.pool.Cut(b, a)
			want := 12
			if a == b {
				want = 6
			}
			expect(t, fmt.Sprintf("Cut(%d, %d)", b, a), n, want)
			expect(t, "once more", p.pool.Cut(b, a), 0)
			expect(t, "the other way", p.pool.Cut(a, b), 0)
			sum += n
			expect(t, "Len", p.pool.Len(), 486-sum)
		}
	}
	expectAll(t, "all cut", p.pool, nil)
}

func TestCutOfNoReplica(t *testing.T) {
	p := crossed(t, 2)
	for _, a := range edges() {
		for _, b := range edges() {
			if a < -1 || a > 7 || b < -1 || b > 7 {
				expect(t, fmt.Sprintf("Cut(%d, %d)", a, b), p.pool.Cut(a, b), 0)
			}
		}
	}
	p.way("nothing is changed")
	p.send(api.Msg{From: math.MaxInt, To: math.MinInt}, 1)
	p.cut(math.MinInt, math.MaxInt)
	p.end("one more, and cut")
}

// P20.1 and P20.2, together

// A step is one call, with its numbers.
type step struct {
	kind    string
	i, n, m int
}

func (s step) do(p *pair) {
	p.t.Helper()
	switch s.kind {
	case "send":
		p.send(api.Msg{Kind: api.MsgPrepare, From: s.i, To: s.m, Ballot: len(p.says.sent)}, s.n)
	case "next":
		p.next()
	case "drop":
		p.drop(s.i)
	case "twice":
		p.twice(s.i, s.n)
	case "cut":
		p.cut(s.i, s.m)
	case "copy":
		p.goOn()
	}
	expect(p.t, "Len", p.pool.Len(), len(p.says.sent))
}

func someSteps() []step {
	return []step{
		{kind: "send"}, {kind: "send", i: 1, n: 1}, {kind: "send", n: -1, m: 1}, {kind: "next"}, {kind: "copy"},
		{kind: "drop"}, {kind: "drop", i: 1}, {kind: "drop", i: 2}, {kind: "drop", i: -1},
		{kind: "twice"}, {kind: "twice", i: 1, n: 1}, {kind: "twice", i: 2, n: -1},
		{kind: "cut"}, {kind: "cut", m: 1}, {kind: "cut", i: 1, m: 1},
	}
}

func TestEachStepBehindEachOther(t *testing.T) {
	for _, dues := range [][]int{nil, {0, 0, 1}, {1, 0, -1, 0, 1}} {
		for _, first := range someSteps() {
			for _, second := range someSteps() {
				for _, third := range someSteps() {
					p := made(t, dues...)
					first.do(p)
					second.do(p)
					third.do(p)
					p.end(fmt.Sprint(dues, first, second, third))
				}
			}
		}
	}
}

// steps are those that bytes say, with a few times and replicas, so that many are alike.
func steps(b []byte) []step {
	kinds := []string{"send", "send", "send", "send", "send", "send", "next", "next", "drop", "twice", "twice", "cut", "copy"}
	var l []step
	for ; len(b) >= 4; b = b[4:] {
		s := step{kinds[int(b[0])%len(kinds)], int(b[1]), int(b[2])%9 - 4, int(b[3]) % 7}
		if s.kind == "send" || s.kind == "cut" {
			s.i %= 7
		} else {
			s.i = s.i*2 - 3
		}
		l = append(l, s)
	}
	return l
}

func checkSteps(t *testing.T, b []byte) {
	t.Helper()
	p := made(t)
	for i, s := range steps(b) {
		s.do(p)
		if i%16 == 0 {
			p.way(fmt.Sprint(i, s))
		}
	}
	p.end("at last")
}

func TestStepsOfBytes(t *testing.T) {
	r := rand.New(rand.NewSource(20))
	for i := range 300 {
		b := make([]byte, 4*r.Intn(400))
		r.Read(b)
		if i%3 == 0 { // few others but Send, so that it gets full
			for k := 0; k < len(b); k += 4 {
				b[k] %= 4
			}
		}
		checkSteps(t, b)
	}
}

func FuzzSteps(f *testing.F) {
	for i := range 30 {
		f.Add([]byte{0, byte(i), 3, 1, 5, 2, byte(i), 2, 9, 1, 4, 0, byte(i), 3, 3, 3, 12, 0, 0, 0, 6, 0, 0, 0})
	}
	f.Fuzz(func(t *testing.T, b []byte) {
		checkSteps(t, b[:min(len(b), 4000)])
	})
}

// P20.3

// A count says how often each message, told by its ballot, was sent and doubled, less
// how often it was dropped and cut; and how often it came.
type count struct {
	owed, came map[int]int
}

// upset does something to the pool, and counts it. What there is is told by a copy.
func (c count) upset(t *testing.T, r *rand.Rand, p *net.Pool, now, id int) {
	was := drain(t, p.Copy())
	i, due, a, b := r.Intn(len(was)+1), now+r.Intn(20), r.Intn(7), r.Intn(7)
	switch r.Intn(8) {
	case 0, 1, 2:
		if p.Send(api.Msg{From: a, To: b, Ballot: id}, due) {
			c.owed[id]++
		}
	case 3:
		if p.Twice(i, due) {
			c.owed[was[i].m.Ballot]++
		}
	case 4:
		if p.Drop(i) {
			c.owed[was[i].m.Ballot]--
		}
	case 5:
		n := p.Cut(a, b)
		for _, x := range was {
			if between(x.m, a, b) {
				c.owed[x.m.Ballot]--
				n--
			}
		}
		expect(t, "cut", n, 0)
	default:
		if m, due, ok := p.Next(); ok {
			c.came[m.Ballot]++
			least := slices.MinFunc(was, func(x, y item) int { return x.due - y.due }).due
			expect(t, "its time", due, least)
		}
	}
}

func TestWhatFollows(t *testing.T) {
	r := rand.New(rand.NewSource(203))
	for range 100 {
		p, c := net.New(), count{map[int]int{}, map[int]int{}}
		for i := range 300 {
			c.upset(t, r, p, i, i+1)
		}
		l := drain(t, p)
		for i, x := range l {
			c.came[x.m.Ballot]++
			if i > 0 && l[i-1].due > x.due {
				t.Errorf("%d ahead of %d", l[i-1].due, x.due)
			}
		}
		for id := range 301 {
			if c.owed[id] != c.came[id] {
				t.Errorf("message %d came %d times, want %d", id, c.came[id], c.owed[id])
			}
		}
	}
}

// However a list is sent, its times rising: it comes as it was sent.
func TestRisingTimes(t *testing.T) {
	p := made(t)
	for i := range most {
		p.send(numbered(i), i/3)
	}
	for i := range most {
		if m, due, ok := p.pool.Next(); m.Ballot != i || due != i/3 || !ok {
			t.Fatalf("%d: %d, %d, %v", i, m.Ballot, due, ok)
		}
	}
}

// P20.4

// voted is a message whose list has room behind its end.
func voted(n int) (api.Msg, []api.Vote) {
	wide := []api.Vote{{Slot: 1, Ballot: n}, {Slot: 2, Bytes: "b"}, {Slot: 3, Full: true}, {Slot: 4}, {Slot: 5}}
	return api.Msg{Kind: api.MsgPromise, Ballot: n, Votes: wide[:3]}, wide
}

func spoil(l []api.Vote) {
	for i := range l[:cap(l)] {
		l[:cap(l)][i] = api.Vote{Slot: -1, Bytes: "other"}
	}
}

func TestWhatIsHandedInStays(t *testing.T) {
	for _, dues := range [][]int{{1, 2, 3}, {3, 2, 1}, {0, 0, 0}} {
		p := net.New()
		var want []item
		for i, due := range dues {
			m, wide := voted(i)
			was := slices.Clone(wide)
			p.Send(m, due)
			p.Twice(0, 5)
			p.Copy().Next()
			p.Copy().Cut(0, 0)
			if !slices.Equal(wide, was) || len(m.Votes) != 3 {
				t.Errorf("%+v, was %+v", wide, was)
			}
			spoil(wide)
			like, _ := voted(i)
			want = append(want, item{like, due})
		}
		p.Drop(p.Len() - 1)
		p.Drop(p.Len() - 1)
		p.Drop(p.Len() - 1)
		slices.SortStableFunc(want, func(x, y item) int { return x.due - y.due })
		expectAll(t, "what was handed in is other now", p, want)
	}
}

// A list that was sent again and again, and is changed meanwhile, comes each time as it
// was then.
func TestSentAgain(t *testing.T) {
	p := net.New()
	m, _ := voted(0)
	var want []item
	for i := range 20 {
		m.Votes[0].Slot, m.Ballot = i, i
		p.Send(m, 1)
		like := m
		like.Votes = slices.Clone(m.Votes)
		want = append(want, item{like, 1})
	}
	expectAll(t, "all", p, want)
}

func TestWhatIsToldIsNewMemory(t *testing.T) {
	p := net.New()
	for i := range 6 {
		m, _ := voted(i)
		p.Send(m, 1)
	}
	for i := range 6 {
		p.Twice(i, 2)
		p.Twice(i+6, 3)
	}
	c, d := p.Copy(), p.Copy()
	cc := c.Copy()
	for i := range 18 {
		want, _ := voted(i % 6)
		var got []api.Msg
		for _, x := range []*net.Pool{p, c, d, cc} {
			m, due, ok := x.Next()
			if !same(m, want) || due != i/6+1 || !ok {
				t.Fatalf("%d: %+v, %d, %v", i, m, due, ok)
			}
			got = append(got, m)
		}
		for k, m := range got { // two answers share nothing, nor does any with a pool
			if !same(m, want) {
				t.Errorf("%d of %d: %+v", k, i, m)
			}
			spoil(m.Votes)
			_ = append(m.Votes, api.Vote{Bytes: "more"})
		}
	}
}

// What was answered stays, whatever is done then.
func TestAnswersStay(t *testing.T) {
	for _, deed := range deeds() {
		p := made(t, 3, 3, 1, 2, 1).pool
		for i := range 4 {
			m, _ := voted(i)
			p.Send(m, 0)
			p.Twice(0, 0)
		}
		first, _, _ := p.Next()
		second, _, _ := p.Next()
		for range 6 {
			deed(p)
		}
		want, _ := voted(0)
		if !same(first, want) || !same(second, want) {
			t.Errorf("%+v and %+v", first, second)
		}
	}
}

// Asking changes nothing.
func TestAskingChangesNothing(t *testing.T) {
	p := made(t, manyTimes(40)...)
	for range 3 {
		expect(t, "Len", p.pool.Len(), 40)
		p.pool.Copy()
		p.pool.Drop(40)
		p.pool.Twice(-1, 0)
		p.pool.Cut(3, 3) // between whom there is nothing
		p.way("as it was")
	}
	p.end("as it was")
}

// P1

func TestNoCallPanics(t *testing.T) {
	for _, n := range []int{0, 1, 2, most} {
		for _, x := range edges() {
			for _, y := range edges() {
				p := made(t, manyTimes(n)...)
				for range 2 {
					p.send(api.Msg{Kind: y, From: x, To: y, Ballot: x, Slot: y}, x)
					p.drop(y)
					p.twice(x, y)
					p.cut(x, y)
					p.goOn()
					p.next()
				}
				p.end(fmt.Sprint(n, x, y))
			}
		}
	}
}
