package chain_test

import (
	"math"
	"reflect"
	"slices"
	"strings"
	"testing"

	"pointsman/api"
	"pointsman/chain"
	"pointsman/plain"
	"pointsman/rule"
)

// Nodes that are asked often.
var (
	always = api.Match{Op: api.Always}
	asks   = api.Match{Op: api.Asks}
	not    = api.Match{Op: api.Not}
	and    = api.Match{Op: api.And}
	or     = api.Match{Op: api.Or}
)

func below(labels ...string) api.Match { return api.Match{Op: api.Below, Name: labels} }

func typeIs(n int) api.Match { return api.Match{Op: api.TypeIs, N: n} }

func fromIn(n int, addr ...byte) api.Match { return api.Match{Op: api.FromIn, N: n, Addr: addr} }

// does makes a rule of nodes, with what is done where it holds.
func does(do int, of ...api.Match) api.Rule { return api.Rule{If: of, Do: do} }

// list makes a chain of rules.
func list(of ...api.Rule) []api.Rule { return of }

// times makes a chain of one rule again and again.
func times(count int, r api.Rule) []api.Rule { return slices.Repeat(list(r), count) }

// long makes a label of so many bytes.
func long(size int) string { return strings.Repeat("x", size) }

// numbers makes a source of numbers below others, the same each time.
func numbers(seed uint32) func(int) int {
	return func(n int) int {
		seed = seed*1664525 + 1013904223
		return int(seed>>16) % n
	}
}

// usual is a query of which some rules hold.
func usual() api.Query {
	return api.Query{Name: []string{"www", "A", "com"}, Type: 28, Class: 1, Opcode: 4, RD: true, From: []byte{10, 200, 0, 1}}
}

// holdCheck holds what Check tells against what it is to tell, and what the
// other calls tell of a chain that is wrong.
func holdCheck(t *testing.T, rs []api.Rule, place int, want api.Errno) {
	t.Helper()
	i, err := chain.Check(rs)
	if got := plain.Told(err); i != place || got != want {
		t.Errorf("Check(%.200v): got %d, %v, want %d, %v", rs, i, got, place, want)
	}
	i, err = chain.First(rs, usual())
	if got := plain.Told(err); got != want || want != api.OK && i != 0 {
		t.Errorf("First(%.200v): got %d, %v, want %v", rs, i, got, want)
	}
	i, err = chain.Do(rs, usual(), 77)
	if got := plain.Told(err); got != want || want != api.OK && i != 0 {
		t.Errorf("Do(%.200v): got %d, %v, want %v", rs, i, got, want)
	}
}

// holdFirst holds what First and Do tell against what they are to tell.
func holdFirst(t *testing.T, rs []api.Rule, q api.Query, want int) {
	t.Helper()
	i, err := chain.First(rs, q)
	if i != want || err != nil {
		t.Errorf("First(%.200v, %v): got %d, %v, want %d", rs, q, i, plain.Told(err), want)
	}
	for _, other := range []int{0, -1, 7, math.MinInt, math.MaxInt} {
		done := other
		if want >= 0 {
			done = rs[want].Do
		}
		i, err := chain.Do(rs, q, other)
		if i != done || err != nil {
			t.Errorf("Do(%.200v, %v, %d): got %d, %v, want %d", rs, q, other, i, plain.Told(err), done)
		}
	}
}

// wrongs are rules of which something is wrong, by how they are.
func wrongs() map[api.Errno][]api.Rule {
	return map[api.Errno][]api.Rule{
		api.ErrSyntax: list(
			does(1), api.Rule{If: []api.Match{}}, does(1, api.Match{}), does(1, api.Match{Op: 11}), does(1, api.Match{Op: -1}),
			does(1, not), does(1, always, and), does(1, always, always), does(1, api.Match{Op: api.Always, N: 1}),
			does(1, api.Match{Op: api.TypeIs, Name: []string{"a"}}), does(1, api.Match{Op: api.Below, Addr: []byte{0}}),
		),
		api.ErrLabel: list(does(1, below("a", "")), does(1, below(long(64))), does(1, always, below(""), or)),
		api.ErrLong:  list(does(1, below(slices.Repeat([]string{"a"}, 128)...))),
		api.ErrRange: list(
			does(1, typeIs(-1)), does(1, typeIs(65536)), does(1, api.Match{Op: api.OpIs, N: 16}),
			does(1, fromIn(9, 1)), does(1, fromIn(0, make([]byte, api.MaxAddr+1)...)),
		),
		api.ErrFull: list(
			api.Rule{If: slices.Repeat([]api.Match{always}, api.MaxRule+1)},
			api.Rule{If: append([]api.Match{always}, slices.Repeat([]api.Match{not}, api.MaxRule)...)},
		),
	}
}

func TestCH1CheckRight(t *testing.T) {
	holdCheck(t, nil, 0, api.OK)
	holdCheck(t, list(), 0, api.OK)
	for _, do := range []int{0, -1, 5, math.MinInt, math.MaxInt} {
		holdCheck(t, list(does(do, always)), 0, api.OK)
		holdCheck(t, list(does(do, asks, not), does(do, below("com"), typeIs(65535), and), does(do, always)), 0, api.OK)
	}
	holdCheck(t, times(2, does(1, always)), 0, api.OK)
	holdCheck(t, list(api.Rule{If: append([]api.Match{always}, slices.Repeat([]api.Match{not}, api.MaxRule-1)...)}), 0, api.OK)
}

func TestCH1CheckFull(t *testing.T) {
	for _, count := range []int{49, 50} {
		holdCheck(t, times(count, does(1, always)), 0, api.OK)
	}
	for _, count := range []int{51, 52, 1000} {
		holdCheck(t, times(count, does(1, always)), 0, api.ErrFull)
		// How many there are is looked at ahead of any one of them.
		holdCheck(t, times(count, does(1)), 0, api.ErrFull)
		for _, place := range []int{0, 1, 49, 50} {
			rs := times(count, does(1, always))
			rs[place] = does(1, typeIs(-1))
			holdCheck(t, rs, 0, api.ErrFull)
		}
	}
}

func TestCH1CheckWrong(t *testing.T) {
	for want, rules := range wrongs() {
		for _, r := range rules {
			holdCheck(t, list(r), 0, want)
			for _, count := range []int{2, 3, 50} {
				for _, place := range []int{0, 1, count / 2, count - 1} {
					rs := times(count, does(1, always))
					rs[place] = r
					holdCheck(t, rs, place, want)
				}
			}
		}
	}
}

func TestCH1CheckFirstWrong(t *testing.T) {
	for want, rules := range wrongs() {
		for _, behind := range wrongs() {
			for _, r := range rules {
				holdCheck(t, list(r, behind[0]), 0, want)
				holdCheck(t, list(does(1, always), r, behind[0], r), 1, want)
				holdCheck(t, append(append(times(10, does(1, asks)), r), times(39, behind[0])...), 10, want)
			}
		}
	}
}

func TestCH1First(t *testing.T) {
	rs := list(
		does(10, below("b", "com")),
		does(11, typeIs(28), asks, not, and),
		does(12, fromIn(9, 10, 128), typeIs(28), and),
		does(13, below("com")),
		does(14, always),
	)
	q := usual()
	holdFirst(t, rs, q, 2)
	holdFirst(t, rs[:2], q, -1)
	holdFirst(t, rs[3:], q, 0)
	q.RD = false
	holdFirst(t, rs, q, 1)
	q.Name = []string{"x", "B", "COM"}
	holdFirst(t, rs, q, 0)
	q = api.Query{Name: []string{"com"}}
	holdFirst(t, rs, q, 3)
	holdFirst(t, rs[:3], q, -1)
	holdFirst(t, rs, api.Query{}, 4)
	holdFirst(t, rs[:4], api.Query{}, -1)
}

func TestCH1NoneHolds(t *testing.T) {
	never := does(5, always, not)
	for _, q := range []api.Query{{}, usual()} {
		holdFirst(t, nil, q, -1)
		holdFirst(t, list(), q, -1)
		holdFirst(t, list(never), q, -1)
		holdFirst(t, times(50, never), q, -1)
	}
}

func TestCH1EachPlace(t *testing.T) {
	for count := 1; count <= api.MaxChain; count++ {
		for place := range count {
			rs := times(count, does(5, always, not))
			for i := place; i < count; i++ {
				rs[i] = does(i-20, always)
			}
			holdFirst(t, rs, usual(), place)
			// Those behind say nothing of it.
			for i := place + 1; i < count; i++ {
				rs[i] = does(5, always, not)
			}
			holdFirst(t, rs, usual(), place)
		}
	}
}

func TestCH1DoIsAnyNumber(t *testing.T) {
	for _, do := range []int{0, -1, 1, 1 << 32, math.MinInt, math.MaxInt} {
		holdFirst(t, list(does(1, always, not), does(do, always), does(2, always)), usual(), 1)
	}
}

func TestCH1WrongBehindOneThatHolds(t *testing.T) {
	for want, rules := range wrongs() {
		for _, r := range rules {
			holdCheck(t, list(does(1, always), r), 1, want)
			holdCheck(t, list(does(1, asks), does(2, always), r), 2, want)
			holdCheck(t, append(times(49, does(1, always)), r), 49, want)
		}
	}
}

// A query of wrong names or numbers is one of which rules hold or don't.
func TestCH1AnyQuery(t *testing.T) {
	rs := list(does(1, below("a")), does(2, typeIs(1)), does(3, asks))
	holdFirst(t, rs, api.Query{Name: []string{"", "a"}, Type: -1}, 0)
	holdFirst(t, rs, api.Query{Name: []string{long(300)}, Type: math.MinInt, Class: math.MaxInt, Opcode: -7}, -1)
	holdFirst(t, rs, api.Query{Name: slices.Repeat([]string{"b"}, 400), Type: 1<<32 + 1, RD: true, From: make([]byte, 99)}, 2)
	holdFirst(t, list(does(1, fromIn(128, make([]byte, 16)...))), api.Query{From: make([]byte, 99)}, 0)
}

// some makes a rule of nodes by chance, not always a right one.
func some(number func(int) int) api.Rule {
	leaves := []api.Match{always, asks, below("com"), below("b", "com"), typeIs(1), typeIs(28), fromIn(9, 10, 128), fromIn(3, 64)}
	of := []api.Match{leaves[number(len(leaves))]}
	for range number(4) {
		switch number(4) {
		case 0:
			of = append(of, not)
		case 1:
			of = append(of, leaves[number(len(leaves))], and)
		case 2:
			of = append(of, leaves[number(len(leaves))], or)
		}
	}
	if number(60) == 0 {
		of = append(of, []api.Match{typeIs(-1), below(""), {}, and}[number(4)])
	}
	return api.Rule{If: of, Do: number(1000) - 500}
}

// query makes a query by chance.
func query(number func(int) int) api.Query {
	return api.Query{
		Name: [][]string{nil, {"com"}, {"b", "COM"}, {"a", "b", "com"}, {"org"}}[number(5)],
		Type: []int{0, 1, 28}[number(3)],
		RD:   number(2) == 0,
		From: [][]byte{nil, {10, 200, 0, 1}, {10, 100, 0, 1}, {77}}[number(4)],
	}
}

// model tells what First and Check are to tell, one rule behind the other.
func model(rs []api.Rule, q api.Query) (place, wrong int, err error) {
	place = -1
	for i, r := range rs {
		is, err := rule.Holds(r.If, q)
		if err != nil {
			return 0, i, err
		}
		if is && place < 0 {
			place = i
		}
	}
	return place, 0, nil
}

func TestCH1ByChance(t *testing.T) {
	number := numbers(13)
	places, errs := map[int]int{}, map[api.Errno]int{}
	for range 4000 {
		rs := make([]api.Rule, number(1+number(api.MaxChain)))
		for i := range rs {
			rs[i] = some(number)
		}
		q := query(number)
		place, wrong, err := model(rs, q)
		errs[plain.Told(err)]++
		holdCheck(t, rs, wrong, plain.Told(err))
		if err == nil {
			places[min(place, 4)]++
			holdFirst(t, rs, q, place)
		}
	}
	for i := -1; i <= 4; i++ {
		if places[i] == 0 {
			t.Errorf("no chain whose first rule that holds stands at %d", i)
		}
	}
	for _, err := range []api.Errno{api.OK, api.ErrSyntax, api.ErrLabel, api.ErrRange} {
		if errs[err] == 0 {
			t.Errorf("no chain of which %v is told", err)
		}
	}
}

// What is handed in, and what lies behind it, stays as it is.
func TestCH1WritesNothing(t *testing.T) {
	made := func() ([]api.Rule, api.Query) {
		behind := []api.Match{below("B", "com"), typeIs(28), and, always, not}
		rs := list(does(1, behind[:3]...), does(2, fromIn(9, 10, 200, 3)), does(3, always), does(4))
		return rs, usual()
	}
	rs, q := made()
	for range 2 {
		holdCheck(t, rs[:3], 0, api.OK)
		holdFirst(t, rs[:3], q, 1)
		holdCheck(t, rs, 3, api.ErrSyntax)
	}
	// Of a rule whose list is longer in memory, what lies behind is not read.
	if got := rs[0].If[:5]; !reflect.DeepEqual(got[3:], []api.Match{always, not}) {
		t.Errorf("behind a rule: got %v", got[3:])
	}
	wantRules, wantQuery := made()
	if !reflect.DeepEqual(rs, wantRules) || !reflect.DeepEqual(q, wantQuery) {
		t.Errorf("what was handed in is changed: %v, %v", rs, q)
	}
}
