package stack_test

import (
	"math"
	"testing"

	"naskh/api"
	"naskh/stack"
)

// none is what a stack that no call made tells of its last entry.
var none = stack.Entry{Override: api.ON}

// plain, embedding and isolate are entries in fewer words.
func plain(level int) stack.Entry { return stack.Entry{Level: level, Override: api.ON} }

func embedding(level, override int) stack.Entry { return stack.Entry{Level: level, Override: override} }

func isolate(level int) stack.Entry {
	return stack.Entry{Level: level, Override: api.ON, Isolate: true}
}

// over is what a stack tells of its counts.
type over struct{ isolates, embeddings, counted int }

func overOf(s *stack.Stack) over {
	a, b, c := s.Over()
	return over{a, b, c}
}

// model is a stack by the promise's words: entries, and the three counts.
type model struct {
	entries []stack.Entry
	over
}

func (m *model) top() stack.Entry { return m.entries[len(m.entries)-1] }

func (m *model) next(right bool) int {
	level := m.top().Level + 1
	for level%2 == 1 != right {
		level++
	}
	return level
}

func (m *model) push(e stack.Entry) bool {
	if e.Level <= m.top().Level || e.Level > 125 {
		return false
	}
	m.entries = append(m.entries, e)
	return true
}

func (m *model) pop() bool {
	if len(m.entries) == 1 {
		return false
	}
	m.entries = m.entries[:len(m.entries)-1]
	return true
}

func (m *model) embed(right bool, override int) bool {
	if m.next(right) <= 125 && m.isolates == 0 && m.embeddings == 0 {
		m.entries = append(m.entries, embedding(m.next(right), override))
		return true
	}
	if m.isolates == 0 {
		m.embeddings++
	}
	return false
}

func (m *model) isolate(right bool) bool {
	if m.next(right) <= 125 && m.isolates == 0 && m.embeddings == 0 {
		m.counted++
		m.entries = append(m.entries, isolate(m.next(right)))
		return true
	}
	m.isolates++
	return false
}

func (m *model) endIsolate() {
	if m.isolates > 0 {
		m.isolates--
		return
	}
	if m.counted == 0 {
		return
	}
	m.embeddings = 0
	for len(m.entries) > 1 && !m.top().Isolate {
		m.pop()
	}
	m.pop()
	m.counted--
}

func (m *model) endEmbed() {
	if m.isolates > 0 {
		return
	}
	if m.embeddings > 0 {
		m.embeddings--
	} else if !m.top().Isolate && len(m.entries) >= 2 {
		m.pop()
	}
}

// step does one thing to a stack and to its model, and says whether both answered the same.
type step struct {
	name string
	do   func(s *stack.Stack, m *model) bool
}

// steps are all things that are done to a stack.
func steps() []step {
	l := []step{
		{"Pop", func(s *stack.Stack, m *model) bool { return s.Pop() == m.pop() }},
		{"EndEmbed", func(s *stack.Stack, m *model) bool { s.EndEmbed(); m.endEmbed(); return true }},
		{"EndIsolate", func(s *stack.Stack, m *model) bool { s.EndIsolate(); m.endIsolate(); return true }},
	}
	for _, right := range []bool{false, true} {
		l = append(l,
			step{"Embed", func(s *stack.Stack, m *model) bool { return s.Embed(right, api.ON) == m.embed(right, api.ON) }},
			step{"Override", func(s *stack.Stack, m *model) bool { return s.Embed(right, api.R) == m.embed(right, api.R) }},
			step{"Isolate", func(s *stack.Stack, m *model) bool { return s.Isolate(right) == m.isolate(right) }},
		)
	}
	for _, e := range []stack.Entry{isolate(123), plain(124), embedding(125, -7), plain(126)} {
		l = append(l, step{"Push", func(s *stack.Stack, m *model) bool { return s.Push(e) == m.push(e) }})
	}
	return l
}

// same says what a stack tells otherwise than its model, if anything.
func same(s *stack.Stack, m *model) string {
	switch {
	case s.Top() != m.top():
		return "Top"
	case s.Len() != len(m.entries):
		return "Len"
	case s.Next(true) != m.next(true) || s.Next(false) != m.next(false):
		return "Next"
	case overOf(s) != m.over:
		return "Over"
	}
	return ""
}

// run does steps to a new stack, and tells the one behind which it differs from its model.
func run(t *testing.T, level int, l []step) {
	t.Helper()
	s, m := stack.New(level), &model{entries: []stack.Entry{plain(level)}}
	for at, step := range l {
		if !step.do(s, m) {
			t.Fatalf("New(%d), %s: another answer than asked", level, names(l[:at+1]))
		}
		if what := same(s, m); what != "" {
			t.Fatalf("New(%d), %s: another %s: %v %v, asked for %v", level, names(l[:at+1]), what, s.Top(), overOf(s), m)
		}
	}
}

func names(l []step) string {
	all := ""
	for _, step := range l {
		all += " " + step.name
	}
	return all
}

// TestEachSteps does every few things in every order, near the highest level and far from it.
func TestEachSteps(t *testing.T) {
	all := steps()
	for _, level := range []int{0, 121, 123, 124, 125} {
		for n := range 6 {
			count := 1
			for range n {
				count *= len(all)
			}
			for which := range count {
				l := make([]step, n)
				for at := range l {
					l[at] = all[which%len(all)]
					which /= len(all)
				}
				run(t, level, l)
			}
		}
	}
}

// TestLongSteps does many things one behind another, those that begin something more often than those that end it.
func TestLongSteps(t *testing.T) {
	all := steps()
	for seed := range 300 {
		var l []step
		number := uint32(seed)
		for range 600 {
			number = number*1664525 + 1013904223
			which := int(number>>16) % (2*len(all) - 4)
			if which >= len(all) {
				which -= len(all) - 3 // once more one of Embed and Isolate
			}
			if l = append(l, all[which]); l[len(l)-1].name == "Push" && seed%4 > 0 {
				l[len(l)-1] = all[3+seed%6]
			}
		}
		run(t, seed%126, l)
	}
}

func TestNew(t *testing.T) {
	for asked, level := range map[int]int{0: 0, 1: 1, 2: 2, 61: 61, 124: 124, 125: 125, 126: 125, 127: 125, 1 << 32: 125, math.MaxInt: 125, -1: 0, -2: 0, math.MinInt: 0} {
		s := stack.New(asked)
		if s.Top() != plain(level) || s.Len() != 1 || overOf(s) != (over{}) {
			t.Errorf("New(%d): %v %d %v", asked, s.Top(), s.Len(), overOf(s))
		}
		if s.Pop() || s.Len() != 1 {
			t.Errorf("New(%d): the first entry goes", asked)
		}
	}
}

func TestNext(t *testing.T) {
	tests := []struct{ level, right, left int }{
		{0, 1, 2}, {1, 3, 2}, {2, 3, 4}, {3, 5, 4}, {60, 61, 62}, {61, 63, 62}, {122, 123, 124}, {123, 125, 124}, {124, 125, 126}, {125, 127, 126},
	}
	for _, test := range tests {
		s := stack.New(test.level)
		if s.Next(true) != test.right || s.Next(false) != test.left {
			t.Errorf("Next of %d: %d %d", test.level, s.Next(true), s.Next(false))
		}
	}
}

func TestPush(t *testing.T) {
	s := stack.New(3)
	for _, level := range []int{math.MinInt, -1, 0, 2, 3, 126, 127, math.MaxInt} {
		if s.Push(isolate(level)) || s.Len() != 1 || s.Top() != plain(3) {
			t.Errorf("Push of level %d above 3: %v", level, s.Top())
		}
	}
	for _, e := range []stack.Entry{plain(4), isolate(7), embedding(8, api.L), {Level: 124, Override: math.MinInt, Isolate: true}, embedding(125, 99)} {
		if !s.Push(e) || s.Top() != e || overOf(s) != (over{}) {
			t.Errorf("Push of %v: %v %v", e, s.Top(), overOf(s))
		}
	}
	if s.Len() != 6 || s.Push(plain(125)) || s.Push(plain(126)) {
		t.Error("Push above the highest level", s.Len(), s.Top())
	}
	for _, level := range []int{124, 8, 7, 4, 3} {
		if !s.Pop() || s.Top().Level != level {
			t.Error("Pop to", level, s.Top())
		}
	}
	if s.Pop() || s.Top() != plain(3) {
		t.Error("Pop of the first entry")
	}
}

// TestFull fills a stack with as many entries as may be.
func TestFull(t *testing.T) {
	s := stack.New(0)
	for level := 1; level <= 125; level++ {
		if !s.Push(plain(level)) {
			t.Fatal("Push of", level)
		}
	}
	if s.Len() != 126 || s.Embed(true, api.R) || s.Isolate(true) || s.Embed(false, api.R) || overOf(s) != (over{1, 1, 0}) {
		t.Error("full:", s.Len(), overOf(s))
	}
	for level := 124; level >= 0; level-- {
		if !s.Pop() || s.Top() != plain(level) {
			t.Fatal("Pop to", level, s.Top())
		}
	}
}

func TestEmbed(t *testing.T) {
	s := stack.New(0)
	if !s.Embed(true, api.ON) || s.Top() != plain(1) || s.Len() != 2 {
		t.Error("the first embedding:", s.Top(), s.Len())
	}
	if !s.Embed(true, api.R) || s.Top() != embedding(3, api.R) || !s.Embed(false, api.L) || s.Top() != embedding(4, api.L) || overOf(s) != (over{}) {
		t.Error("overrides:", s.Top(), overOf(s))
	}
	s.EndEmbed()
	s.EndEmbed()
	if s.Top() != plain(1) {
		t.Error("ended:", s.Top())
	}
	s.EndEmbed()
	s.EndEmbed()
	s.EndIsolate()
	if s.Top() != plain(0) || s.Len() != 1 {
		t.Error("ended once too often:", s.Top())
	}
}

// TestEmbedTooMany: what would have had room behind one that was too many has none.
func TestEmbedTooMany(t *testing.T) {
	s := stack.New(124)
	if s.Embed(false, api.L) || overOf(s) != (over{0, 1, 0}) {
		t.Error("one too many:", overOf(s))
	}
	if s.Embed(true, api.R) || s.Len() != 1 || overOf(s) != (over{0, 2, 0}) {
		t.Error("125 behind one too many:", s.Top(), overOf(s))
	}
	if s.Isolate(true) || overOf(s) != (over{1, 2, 0}) {
		t.Error("an isolate behind embeddings too many:", overOf(s))
	}
	if s.Embed(true, api.R) || overOf(s) != (over{1, 2, 0}) {
		t.Error("an embedding in an isolate too many:", overOf(s))
	}
	if s.EndEmbed(); overOf(s) != (over{1, 2, 0}) {
		t.Error("ended in an isolate too many:", overOf(s))
	}
	s.EndIsolate()
	s.EndIsolate()
	if overOf(s) != (over{0, 2, 0}) {
		t.Error("isolates ended:", overOf(s))
	}
	s.EndEmbed()
	s.EndEmbed()
	if s.EndEmbed(); overOf(s) != (over{}) || !s.Embed(true, api.R) || s.Top() != embedding(125, api.R) {
		t.Error("room again:", overOf(s), s.Top())
	}
}

func TestIsolate(t *testing.T) {
	s := stack.New(1)
	if !s.Isolate(false) || s.Top() != isolate(2) || overOf(s) != (over{0, 0, 1}) {
		t.Error("the first isolate:", s.Top(), overOf(s))
	}
	if s.EndEmbed(); s.Len() != 2 {
		t.Error("an isolate ended as an embedding")
	}
	if !s.Isolate(true) || !s.Embed(true, api.R) || !s.Embed(false, api.L) || s.Top() != embedding(6, api.L) {
		t.Error("embeddings in it:", s.Top())
	}
	if s.EndIsolate(); s.Top() != isolate(2) || overOf(s) != (over{0, 0, 1}) {
		t.Error("the inner one ended:", s.Top(), overOf(s))
	}
	s.EndIsolate()
	if s.EndIsolate(); s.Top() != plain(1) || overOf(s) != (over{}) {
		t.Error("both ended:", s.Top(), overOf(s))
	}
}

// TestIsolateEndsEmbeddings: no embedding is too many any more, once what stands apart around them has ended.
func TestIsolateEndsEmbeddings(t *testing.T) {
	s := stack.New(123)
	s.Isolate(false)
	s.Embed(false, api.L)
	s.Embed(false, api.L)
	if overOf(s) != (over{0, 2, 1}) {
		t.Error("in the isolate:", overOf(s))
	}
	if s.EndIsolate(); s.Top() != plain(123) || overOf(s) != (over{}) {
		t.Error("ended:", s.Top(), overOf(s))
	}
}

// TestWithoutItsEntry: an isolate that counts, but of which the entry is gone, takes all that is above the first with it.
func TestWithoutItsEntry(t *testing.T) {
	s := stack.New(0)
	s.Isolate(true)
	s.Pop()
	s.Embed(true, api.R)
	s.Embed(true, api.R)
	if s.EndIsolate(); s.Top() != plain(0) || overOf(s) != (over{}) {
		t.Error("ended:", s.Top(), overOf(s))
	}
	s.Isolate(true)
	s.Pop()
	if s.EndIsolate(); s.Top() != plain(0) || overOf(s) != (over{}) {
		t.Error("ended at the first:", s.Top(), overOf(s))
	}
	s.Push(isolate(9)) // is not counted
	if s.EndIsolate(); s.Top() != isolate(9) {
		t.Error("ended one that does not count:", s.Top())
	}
}

// TestRising: whatever is done, levels rise from the first entry to the last.
func TestRising(t *testing.T) {
	all := steps()
	for seed := range 200 {
		s, m := stack.New(seed%126), &model{entries: []stack.Entry{plain(seed % 126)}}
		number := uint32(seed)
		for range 200 {
			number = number*1664525 + 1013904223
			all[int(number>>16)%len(all)].do(s, m)
		}
		for above := 126; ; above = s.Top().Level {
			if !s.Pop() {
				break
			}
			if s.Top().Level >= above || s.Top().Level < 0 {
				t.Fatal("levels do not rise:", s.Top(), above)
			}
		}
	}
}

// TestNone asks a stack that no call made for all that there is.
func TestNone(t *testing.T) {
	for _, s := range []*stack.Stack{nil, {}, new(stack.Stack)} {
		for range 2 {
			if s.Top() != none || s.Len() != 0 || overOf(s) != (over{}) || s.Next(true) != 1 || s.Next(false) != 2 {
				t.Error("none:", s.Top(), s.Len(), overOf(s), s.Next(true), s.Next(false))
			}
			if s.Push(plain(1)) || s.Push(isolate(125)) || s.Pop() || s.Embed(true, api.R) || s.Embed(false, api.ON) || s.Isolate(true) || s.Isolate(false) {
				t.Error("none: yes")
			}
			s.EndEmbed()
			s.EndIsolate()
		}
	}
}

// TestOwnMemory: stacks, and copies of one, share nothing; an entry that is told belongs to whoever asked for it.
func TestOwnMemory(t *testing.T) {
	a, b := stack.New(0), stack.New(0)
	a.Embed(true, api.R)
	if b.Len() != 1 || b.Top() != plain(0) {
		t.Error("two stacks share:", b.Top())
	}
	c := *a
	a.Pop()
	a.Embed(false, api.L)
	c.Isolate(false)
	if a.Top() != embedding(2, api.L) || c.Top() != isolate(2) || overOf(a) != (over{}) {
		t.Error("a copy shares:", a.Top(), c.Top())
	}
	if c.Pop(); c.Top() != embedding(1, api.R) {
		t.Error("a copy has another entry below:", c.Top())
	}
	e := a.Top()
	e.Level = 77
	if a.Top().Level != 2 {
		t.Error("an entry is shared")
	}
}
