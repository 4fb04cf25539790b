package rule_test

import (
	"math"
	"reflect"
	"slices"
	"strings"
	"testing"

	"pointsman/api"
	"pointsman/plain"
	"pointsman/rule"
)

// Nodes that are asked often.
var (
	always = api.Match{Op: api.Always}
	asks   = api.Match{Op: api.Asks}
	not    = api.Match{Op: api.Not}
	and    = api.Match{Op: api.And}
	or     = api.Match{Op: api.Or}
)

func below(labels ...string) api.Match { return api.Match{Op: api.Below, Name: labels} }

func fromIn(n int, addr ...byte) api.Match { return api.Match{Op: api.FromIn, N: n, Addr: addr} }

// list makes a rule of nodes.
func list(of ...api.Match) []api.Match { return of }

// rules makes one list of rules one behind the other.
func rules(of ...[]api.Match) []api.Match { return slices.Concat(of...) }

// times makes a rule of nodes again and again.
func times(count int, of ...api.Match) []api.Match { return slices.Repeat(of, count) }

// long makes a label of so many bytes.
func long(size int) string { return strings.Repeat("x", size) }

// numbers makes a source of numbers below others, the same each time.
func numbers(seed uint32) func(int) int {
	return func(n int) int {
		seed = seed*1664525 + 1013904223
		return int(seed>>16) % n
	}
}

// same tells if two rules are, where nil and empty lists are the same.
func same(a, b []api.Match) bool {
	return slices.EqualFunc(a, b, func(x, y api.Match) bool {
		return x.Op == y.Op && x.N == y.N && slices.Equal(x.Name, y.Name) && slices.Equal(x.Addr, y.Addr)
	})
}

// holdWrong holds what each call tells of a rule against what is wrong with it.
func holdWrong(t *testing.T, r []api.Match, want api.Errno) {
	t.Helper()
	if got := plain.Told(rule.Check(r)); got != want {
		t.Errorf("Check(%.200v): got %v, want %v", r, got, want)
	}
	is, err := rule.Holds(r, api.Query{Name: []string{"a"}, Type: 1, Class: 1, RD: true, From: []byte{10, 0, 0, 1}})
	if got := plain.Told(err); got != want || want != api.OK && is {
		t.Errorf("Holds(%.200v): got %v, %v, want %v", r, is, got, want)
	}
	if want == api.OK {
		return
	}
	p, err := rule.Plain(r)
	if got := plain.Told(err); got != want || p != nil {
		t.Errorf("Plain(%.200v): got %.200v, %v, want %v", r, p, got, want)
	}
}

// holdHolds holds what Holds tells against what it is to tell.
func holdHolds(t *testing.T, r []api.Match, q api.Query, want bool) {
	t.Helper()
	is, err := rule.Holds(r, q)
	if is != want || err != nil {
		t.Errorf("Holds(%.200v, %.200v): got %v, %v, want %v", r, q, is, plain.Told(err), want)
	}
}

// holdPlain holds what Plain tells against what it is to tell.
func holdPlain(t *testing.T, r, want []api.Match) {
	t.Helper()
	p, err := rule.Plain(r)
	if !same(p, want) || err != nil {
		t.Errorf("Plain(%.200v): got %.200v, %v, want %.200v", r, p, plain.Told(err), want)
	}
}

// holdPlainFull asks Plain of a rule whose plain one has too many nodes.
func holdPlainFull(t *testing.T, r []api.Match) {
	t.Helper()
	if p, err := rule.Plain(r); p != nil || plain.Told(err) != api.ErrFull {
		t.Errorf("Plain(%.200v): got %.200v, %v, want ErrFull", r, p, plain.Told(err))
	}
}

// all are nodes that take none, with the edges of each number.
func all() []api.Match {
	return list(
		always, asks, below(), below("com"), below("a", "b", "COM"), below(long(63)),
		below(long(63), long(63), long(63), long(61)), below(slices.Repeat([]string{"a"}, 127)...),
		api.Match{Op: api.TypeIs}, api.Match{Op: api.TypeIs, N: 1}, api.Match{Op: api.TypeIs, N: 65535},
		api.Match{Op: api.ClassIs}, api.Match{Op: api.ClassIs, N: 1}, api.Match{Op: api.ClassIs, N: 65535},
		api.Match{Op: api.OpIs}, api.Match{Op: api.OpIs, N: 1}, api.Match{Op: api.OpIs, N: 15},
		fromIn(0), fromIn(0, 1), fromIn(7, 1), fromIn(8, 1), fromIn(32, 1, 2, 3, 4), fromIn(9, 10, 128), fromIn(17, 1, 2, 3),
		fromIn(0, make([]byte, api.MaxAddr)...), fromIn(128, make([]byte, api.MaxAddr)...),
		// Where nil is a list that is none, an empty one is the same.
		api.Match{Op: api.Always, Name: []string{}, Addr: []byte{}},
		api.Match{Op: api.Below, Name: []string{"a"}, Addr: []byte{}},
		api.Match{Op: api.FromIn, N: 8, Name: []string{}, Addr: []byte{7}},
	)
}

// wrong is a node of which something is wrong, and how.
type wrong struct {
	m   api.Match
	err api.Errno
}

// wrongs are nodes of which something is wrong, whatever stands ahead of them.
func wrongs() []wrong {
	var told []wrong
	add := func(err api.Errno, ms ...api.Match) {
		for _, m := range ms {
			told = append(told, wrong{m, err})
		}
	}
	for _, op := range []int{0, -1, 11, 1<<32 + 1, 1 << 40, math.MinInt, math.MaxInt} {
		add(api.ErrSyntax, api.Match{Op: op}, api.Match{Op: op, N: -1, Name: []string{""}, Addr: make([]byte, 17)})
	}
	for _, op := range []int{api.Always, api.Asks, api.Not, api.And, api.Or} {
		add(api.ErrSyntax, api.Match{Op: op, N: 1}, api.Match{Op: op, N: -1}, api.Match{Op: op, N: 1 << 32},
			api.Match{Op: op, Name: []string{"a"}}, api.Match{Op: op, Name: []string{""}}, api.Match{Op: op, Addr: []byte{0}})
	}
	for _, op := range []int{api.TypeIs, api.ClassIs, api.OpIs} {
		for _, n := range []int{-1, 1, 65536} {
			add(api.ErrSyntax, api.Match{Op: op, N: n, Name: []string{"a"}}, api.Match{Op: op, N: n, Name: []string{""}}, api.Match{Op: op, N: n, Addr: []byte{0}})
		}
		for _, n := range []int{-1, 65536, 1 << 32, 1<<32 + 1, math.MinInt, math.MaxInt} {
			add(api.ErrRange, api.Match{Op: op, N: n})
		}
	}
	add(api.ErrRange, api.Match{Op: api.OpIs, N: 16}, api.Match{Op: api.OpIs, N: 255}, api.Match{Op: api.OpIs, N: 65535})
	for _, labels := range [][]string{nil, {"a"}, {""}, {long(64)}} {
		add(api.ErrSyntax, api.Match{Op: api.Below, Name: labels, N: 1}, api.Match{Op: api.Below, Name: labels, N: -1}, api.Match{Op: api.Below, Name: labels, Addr: []byte{0}})
	}
	add(api.ErrLabel, below(""), below("a", ""), below("", "a"), below(long(64)), below(long(64), long(63), long(63), long(63), long(63)))
	add(api.ErrLong, below(long(63), long(63), long(63), long(62)), below(slices.Repeat([]string{"a"}, 128)...))
	for _, n := range []int{-1, 0, 8, 9, 200} {
		add(api.ErrSyntax, api.Match{Op: api.FromIn, N: n, Addr: []byte{1}, Name: []string{"a"}}, api.Match{Op: api.FromIn, N: n, Addr: make([]byte, 17), Name: []string{""}})
	}
	add(api.ErrRange, fromIn(-1), fromIn(1), fromIn(-1, 1), fromIn(9, 1), fromIn(33, 1, 2, 3, 4), fromIn(1<<32, 1), fromIn(math.MaxInt, 1), fromIn(math.MinInt, 1),
		fromIn(129, make([]byte, 16)...), fromIn(0, make([]byte, 17)...), fromIn(136, make([]byte, 17)...), fromIn(137, make([]byte, 17)...))
	return told
}

func TestRU1CheckRight(t *testing.T) {
	for _, m := range all() {
		holdWrong(t, list(m), api.OK)
		holdWrong(t, list(m, not), api.OK)
		holdWrong(t, list(m, not, not), api.OK)
		for _, other := range all() {
			holdWrong(t, list(m, other, and), api.OK)
			holdWrong(t, list(other, m, not, or), api.OK)
		}
	}
	holdWrong(t, list(asks, always, asks, and, or), api.OK)
	holdWrong(t, list(asks, always, and, asks, or), api.OK)
	holdWrong(t, list(asks, always, and, asks, always, or, and), api.OK)
}

func TestRU1CheckNotOneRule(t *testing.T) {
	for _, r := range [][]api.Match{
		nil,
		{},
		{not},
		{and},
		{or},
		{always, always},
		{always, and},
		{always, or},
		{and, always},
		{not, always},
		{always, and, always},
		{always, or, always},
		{always, not, and},
		{always, always, not},
		{always, always, and, and},
		{always, always, and, always},
		{always, always, always, and},
		{always, always, always, or, or, or},
		// In the end there would be one, but And took one that isn't there yet.
		{always, and, always, always},
		{and, always, always, always},
		{always, always, and, or, always, always},
	} {
		holdWrong(t, r, api.ErrSyntax)
	}
}

func TestRU1CheckWrong(t *testing.T) {
	for _, w := range wrongs() {
		holdWrong(t, list(w.m), w.err)
		holdWrong(t, list(always, w.m), w.err)
		holdWrong(t, list(always, w.m, and), w.err)
		holdWrong(t, list(w.m, always, or), w.err)
		holdWrong(t, list(always, always, or, w.m, not), w.err)
	}
}

// TestRU1CheckOrder: all that is wrong with one node is told ahead of all that
// is wrong with the next, and what is wrong with the whole at last.
func TestRU1CheckOrder(t *testing.T) {
	for _, first := range wrongs() {
		for _, next := range wrongs() {
			holdWrong(t, list(first.m, next.m), first.err)
			holdWrong(t, list(always, first.m, or, next.m, and), first.err)
		}
		holdWrong(t, list(first.m, and, or), first.err)
		holdWrong(t, list(and, first.m), first.err)
		holdWrong(t, list(not, or, first.m), first.err)
		holdWrong(t, rules(times(198, always), list(and, first.m)), first.err)
	}
}

// leaning makes a rule of so many single nodes, each taken at once.
func leaning(count int, m, by api.Match) []api.Match {
	r := list(m)
	for range count - 1 {
		r = append(r, m, by)
	}
	return r
}

// heaped makes a rule of so many single nodes, all taken in the end.
func heaped(count int, m, by api.Match) []api.Match {
	return rules(times(count, m), times(count-1, by))
}

func TestRU1CheckFull(t *testing.T) {
	holdWrong(t, rules(leaning(100, asks, and), list(not)), api.OK)
	holdWrong(t, rules(heaped(100, asks, and), list(not)), api.OK)
	holdWrong(t, rules(list(always), times(199, not)), api.OK)
	for _, r := range [][]api.Match{
		rules(list(always), times(200, not)),
		leaning(101, asks, and),
		heaped(101, asks, or),
		times(201, always),
		times(201, and),
		times(201, api.Match{}),
		times(5000, api.Match{Op: 7, N: -1}),
	} {
		holdWrong(t, r, api.ErrFull)
	}
	for _, w := range wrongs() {
		holdWrong(t, rules(list(w.m), leaning(100, always, or), list(not)), api.ErrFull)
		holdWrong(t, times(200, w.m), w.err)
	}
	holdWrong(t, times(200, always), api.ErrSyntax)
}

// whole is a query with something in all of it.
func whole() api.Query {
	return api.Query{Name: []string{"www", "A", "com"}, Type: 28, Class: 3, Opcode: 4, RD: true, From: []byte{10, 255, 0, 1}}
}

func TestRU2Single(t *testing.T) {
	for _, c := range []struct {
		m    api.Match
		want bool
	}{
		{always, true},
		{asks, true},
		{below(), true},
		{below("com"), true},
		{below("COM"), true},
		{below("a", "com"), true},
		{below("WWW", "a", "Com"), true},
		{below("x", "www", "A", "com"), false},
		{below("www"), false},
		{below("www", "A"), false},
		{below("om"), false},
		{below("a.com"), false},
		{below("b", "com"), false},
		{api.Match{Op: api.TypeIs, N: 28}, true},
		{api.Match{Op: api.TypeIs, N: 3}, false},
		{api.Match{Op: api.TypeIs, N: 4}, false},
		{api.Match{Op: api.TypeIs}, false},
		{api.Match{Op: api.ClassIs, N: 3}, true},
		{api.Match{Op: api.ClassIs, N: 28}, false},
		{api.Match{Op: api.ClassIs, N: 4}, false},
		{api.Match{Op: api.ClassIs}, false},
		{api.Match{Op: api.OpIs, N: 4}, true},
		{api.Match{Op: api.OpIs, N: 3}, false},
		{api.Match{Op: api.OpIs}, false},
		{fromIn(0), true},
		{fromIn(0, 99), true},
		{fromIn(8, 10), true},
		{fromIn(8, 11), false},
		{fromIn(7, 11), true},
		{fromIn(9, 10, 128), true},
		{fromIn(9, 10, 127), false},
		{fromIn(10, 10, 128), false},
		{fromIn(16, 10, 255), true},
		{fromIn(31, 10, 255, 0, 0), true},
		{fromIn(32, 10, 255, 0, 0), false},
		{fromIn(32, 10, 255, 0, 1), true},
		{fromIn(32, 10, 255, 0, 1, 77, 78), true},
		{fromIn(33, 10, 255, 0, 1, 0), false},
		{fromIn(40, 10, 255, 0, 1, 0), false},
	} {
		holdHolds(t, list(c.m), whole(), c.want)
		holdHolds(t, list(c.m, not), whole(), !c.want)
		holdHolds(t, list(c.m, not, not), whole(), c.want)
	}
}

func TestRU2Taken(t *testing.T) {
	never := rules(list(always), list(not))
	for a, first := range [][]api.Match{never, {always}} {
		for b, next := range [][]api.Match{never, {always}} {
			q := api.Query{}
			holdHolds(t, rules(first, next, list(and)), q, a+b == 2)
			holdHolds(t, rules(first, next, list(or)), q, a+b > 0)
			holdHolds(t, rules(first, next, list(and, not)), q, a+b < 2)
			holdHolds(t, rules(first, next, list(or, not)), q, a+b == 0)
			holdHolds(t, rules(first, next, list(not, and)), q, a == 1 && b == 0)
			holdHolds(t, rules(first, list(not), next, list(or)), q, a == 0 || b == 1)
			// What stands ahead of And is what it takes, not what stands there first.
			holdHolds(t, rules(first, next, list(always, and, or)), q, a+b > 0)
			holdHolds(t, rules(first, next, list(and, always, or)), q, true)
			holdHolds(t, rules(never, first, next, list(or, and)), q, false)
			holdHolds(t, rules(never, first, list(and), next, list(or)), q, b == 1)
		}
	}
}

// TestRU2AnyQuery: a query of which all would be wrong elsewhere is asked too.
func TestRU2AnyQuery(t *testing.T) {
	nothing := api.Query{}
	holdHolds(t, list(always), nothing, true)
	holdHolds(t, list(asks), nothing, false)
	holdHolds(t, list(below()), nothing, true)
	holdHolds(t, list(below("a")), nothing, false)
	for _, op := range []int{api.TypeIs, api.ClassIs, api.OpIs} {
		holdHolds(t, list(api.Match{Op: op}), nothing, true)
		holdHolds(t, list(api.Match{Op: op, N: 1}), nothing, false)
	}
	holdHolds(t, list(fromIn(0)), nothing, true)
	holdHolds(t, list(fromIn(0, 1, 2)), nothing, true)
	holdHolds(t, list(fromIn(1, 0)), nothing, false)

	odd := api.Query{Name: []string{"", long(300), "a"}, Type: -1, Class: 1 << 40, Opcode: 1<<32 + 5, From: slices.Repeat([]byte{7}, 100)}
	holdHolds(t, list(below("A")), odd, true)
	holdHolds(t, list(below("b")), odd, false)
	holdHolds(t, list(api.Match{Op: api.TypeIs, N: 65535}), odd, false)
	holdHolds(t, list(api.Match{Op: api.ClassIs}), odd, false)
	holdHolds(t, list(api.Match{Op: api.OpIs, N: 5}), odd, false)
	holdHolds(t, list(fromIn(128, slices.Repeat([]byte{7}, 16)...)), odd, true)
	holdHolds(t, list(fromIn(127, append(slices.Repeat([]byte{7}, 15), 6)...)), odd, true)
	holdHolds(t, list(fromIn(128, append(slices.Repeat([]byte{7}, 15), 6)...)), odd, false)
}

// TestRU2Bits holds FromIn against bits told one by one.
func TestRU2Bits(t *testing.T) {
	bit := func(b []byte, i int) int { return int(b[i/8]) >> (7 - i%8) & 1 }
	next := numbers(5)
	for range 3000 {
		addr := make([]byte, next(5))
		from := make([]byte, next(5))
		for i := range from {
			from[i] = byte(next(256))
		}
		copy(addr, from)
		if len(addr) > 0 {
			addr[next(len(addr))] ^= 1 << next(8)
		}
		for n := range len(addr)*8 + 1 {
			want := n <= len(from)*8
			for i := 0; want && i < n; i++ {
				want = bit(from, i) == bit(addr, i)
			}
			holdHolds(t, list(fromIn(n, addr...)), api.Query{From: from}, want)
		}
	}
}

func TestRU3Plain(t *testing.T) {
	a, b, c := below("com"), api.Match{Op: api.TypeIs, N: 5}, fromIn(9, 10, 128)
	for _, x := range []struct{ r, want []api.Match }{
		{list(a), list(a)},
		{list(a, not), list(a, not)},
		{list(a, not, not), list(a)},
		{list(a, not, not, not), list(a, not)},
		{list(always, not), list(always, not)},
		{list(a, b, and), list(a, b, and)},
		{list(b, a, or), list(b, a, or)},
		{list(a, b, and, not), list(a, not, b, not, or)},
		{list(a, b, or, not), list(a, not, b, not, and)},
		{list(a, b, and, not, not), list(a, b, and)},
		{list(a, not, b, and, not), list(a, b, not, or)},
		{list(a, b, not, or, not), list(a, not, b, and)},
		{list(a, not, b, not, or, not), list(a, b, and)},
		{list(a, not, not, b, not, and), list(a, b, not, and)},
		{list(a, b, or, c, and), list(a, b, or, c, and)},
		{list(a, b, c, or, and), list(a, b, c, or, and)},
		{list(a, b, or, c, and, not), list(a, not, b, not, and, c, not, or)},
		{list(a, b, c, or, and, not), list(a, not, b, not, c, not, and, or)},
		{list(a, b, or, not, c, and), list(a, not, b, not, and, c, and)},
		{list(a, b, or, not, c, and, not), list(a, b, or, c, not, or)},
		{list(a, a, and, not, a, or), list(a, not, a, not, or, a, or)},
	} {
		holdPlain(t, x.r, x.want)
	}
	for _, m := range all() {
		holdPlain(t, list(m), list(m))
		holdPlain(t, list(m, not), list(m, not))
		holdPlain(t, list(m, always, or, not), list(m, not, always, not, and))
	}
}

func TestRU3Full(t *testing.T) {
	holdPlain(t, rules(list(asks), times(199, not)), list(asks, not))
	holdPlain(t, rules(list(asks), times(198, not)), list(asks))
	holdPlain(t, leaning(100, asks, and), leaning(100, asks, and))
	// 67 of asks, 67 of not and 66 of or are 200.
	holdPlain(t, rules(heaped(67, asks, and), list(not)), rules(times(67, asks, not), times(66, or)))
	// One less, with its not gone, and two more are 201.
	some := rules(list(asks, not), times(66, asks), times(66, and), list(not))
	holdPlain(t, some, rules(list(asks), times(66, asks, not), times(66, or)))
	for _, r := range [][]api.Match{
		rules(some, list(always, and)),
		rules(list(always), some, list(or)),
		rules(heaped(68, asks, and), list(not)),
		rules(leaning(68, asks, or), list(not)),
		rules(leaning(100, asks, or), list(not)),
	} {
		if err := rule.Check(r); err != nil {
			t.Errorf("Check(%.200v): %v", r, err)
		}
		holdPlainFull(t, r)
	}
}

// known is a rule with what is known of it: what is plain of it and of its
// opposite, and if it holds.
type known struct {
	r, plain, opposite []api.Match
	holds              bool
}

// grown makes a rule by chance, and what is known of it at a query: at each
// node, by what is known of what it takes.
func grown(next func(int) int, q api.Query, deep int) known {
	if deep == 0 || next(5) == 0 {
		return single(next, q)
	}
	one := grown(next, q, deep-1)
	if next(3) == 0 {
		return known{rules(one.r, list(not)), one.opposite, one.plain, !one.holds}
	}
	two := grown(next, q, deep-1)
	k := known{rules(one.r, two.r, list(and)), rules(one.plain, two.plain, list(and)), rules(one.opposite, two.opposite, list(or)), one.holds && two.holds}
	if next(2) == 0 {
		k = known{rules(one.r, two.r, list(or)), rules(one.plain, two.plain, list(or)), rules(one.opposite, two.opposite, list(and)), one.holds || two.holds}
	}
	return k
}

func single(next func(int) int, q api.Query) known {
	m, holds := always, true
	switch n := next(3); next(7) {
	case 0:
		m, holds = asks, q.RD
	case 1:
		labels := [...]string{"a", "b", "c"}
		m, holds = below(labels[n]), len(q.Name) > 0 && q.Name[len(q.Name)-1] == labels[n]
	case 2:
		m, holds = api.Match{Op: api.TypeIs, N: n}, q.Type == n
	case 3:
		m, holds = api.Match{Op: api.ClassIs, N: n}, q.Class == n
	case 4:
		m, holds = api.Match{Op: api.OpIs, N: n}, q.Opcode == n
	case 5:
		m, holds = fromIn(8, byte(n)), len(q.From) > 0 && q.From[0] == byte(n)
	}
	return known{list(m), list(m), list(m, not), holds}
}

// asked makes a query by chance.
func asked(next func(int) int) api.Query {
	q := api.Query{Type: next(3), Class: next(3), Opcode: next(3), RD: next(2) == 0}
	for range next(3) {
		q.Name = append(q.Name, string(rune('a'+next(3))))
	}
	for range next(3) {
		q.From = append(q.From, byte(next(3)))
	}
	return q
}

// lone tells if each Not stands behind a node that takes nothing.
func lone(r []api.Match) bool {
	for i, m := range r {
		if m.Op == api.Not && (i == 0 || r[i-1].Op >= api.Not) {
			return false
		}
	}
	return true
}

func TestRU2RU3AgainstKnown(t *testing.T) {
	next := numbers(12)
	full, plainFull := 0, 0
	for range 4000 {
		q := asked(next)
		k := grown(next, q, 2+next(10))
		if len(k.r) > api.MaxRule {
			holdWrong(t, k.r, api.ErrFull)
			full++
			continue
		}
		holdHolds(t, k.r, q, k.holds)
		if len(k.plain) > api.MaxRule {
			holdPlainFull(t, k.r)
			plainFull++
			continue
		}
		holdPlain(t, k.r, k.plain)
		holdPlain(t, k.plain, k.plain)
		holdHolds(t, k.plain, q, k.holds)
		if !lone(k.plain) {
			t.Fatalf("%v has a Not of more than one node", k.plain)
		}
	}
	if full == 0 || plainFull == 0 {
		t.Errorf("%d rules had too many nodes, and %d plain ones", full, plainFull)
	}
}

// behind is what lies in memory behind a list, and is neither read nor written.
const behind = 99

// roomy makes a rule whose lists are longer in memory than they tell, and stand
// in it more than once.
func roomy() []api.Match {
	labels := []string{"a", "com", ""}
	addr := []byte{10, 128, behind}
	r := list(
		below(labels[:2]...), fromIn(9, addr[:2]...), and,
		below(labels[:2]...), fromIn(9, addr[:2]...), or, not, and,
		api.Match{Op: behind},
	)
	return r[:len(r)-1]
}

// TestP2Kept: what is handed in is not written into, and what comes out shares
// no memory with it, nor with itself.
func TestP2Kept(t *testing.T) {
	r, name, from := roomy(), []string{"x", "A", "COM", "y"}, []byte{10, 200, 3, behind}
	holdHolds(t, r, api.Query{Name: name[:3], From: from[:3]}, false)
	holdHolds(t, list(below(r[0].Name...)), api.Query{Name: name[:3]}, true)
	want := list(below("a", "com"), fromIn(9, 10, 128), and, below("a", "com"), not, fromIn(9, 10, 128), not, and, and)
	p, err := rule.Plain(r)
	if !same(p, want) || err != nil {
		t.Fatalf("Plain: got %v, %v", p, err)
	}
	for i := range p {
		q := slices.Clone(p)
		for j := range q {
			q[j].Name, q[j].Addr = slices.Clone(q[j].Name), slices.Clone(q[j].Addr)
		}
		for j := range p[i].Name[:cap(p[i].Name)] {
			p[i].Name[:cap(p[i].Name)][j] = "changed"
		}
		for j := range p[i].Addr[:cap(p[i].Addr)] {
			p[i].Addr[:cap(p[i].Addr)][j]++
		}
		q[i] = p[i]
		if !same(p, q) {
			t.Fatalf("writing into node %d changed others: %v", i, p)
		}
	}
	p = append(p[:0], times(cap(p), always)...)
	if !reflect.DeepEqual(r, roomy()) || r[:9][8].Op != behind || r[0].Name[:3][2] != "" || r[1].Addr[:3][2] != behind {
		t.Errorf("what was handed in is changed: %v", r)
	}
	if !slices.Equal(name, []string{"x", "A", "COM", "y"}) || !slices.Equal(from, []byte{10, 200, 3, behind}) {
		t.Errorf("the query is changed: %v, %v", name, from)
	}
	if again, _ := rule.Plain(r); !same(again, want) {
		t.Errorf("Plain again: got %v", again)
	}
}

// TestP4Behind: nodes behind a rule's length are no nodes of it.
func TestP4Behind(t *testing.T) {
	r := list(asks, not, not, and)
	holdPlain(t, r[:1], list(asks))
	holdPlain(t, r[:2], list(asks, not))
	holdPlain(t, r[:3], list(asks))
	holdWrong(t, r, api.ErrSyntax)
	holdWrong(t, r[:0], api.ErrSyntax)
	labels := []string{"a", "", long(64)}
	holdWrong(t, list(api.Match{Op: api.Below, Name: labels[:1]}), api.OK)
	holdWrong(t, list(api.Match{Op: api.Always, Name: labels[:0]}), api.OK)
	holdHolds(t, list(fromIn(9, 10, 128)), api.Query{From: []byte{10, 128}[:1]}, false)
}
