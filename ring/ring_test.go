package ring_test

import (
	"bytes"
	"encoding/binary"
	"hash/fnv"
	"math"
	"slices"
	"testing"

	"pointsman/api"
	"pointsman/plain"
	"pointsman/ring"
)

const greatest = 1<<31 - 1 // ID

// numbers makes a source of numbers below others, the same each time.
func numbers(seed uint32) func(int) int {
	return func(n int) int {
		seed = seed*1664525 + 1013904223
		return int(seed>>16) % n
	}
}

// someBytes makes a key of so many bytes.
func someBytes(next func(int) int, size int) []byte {
	b := make([]byte, size)
	for i := range b {
		b[i] = byte(next(256))
	}
	return b
}

// sum is the hash as the library of the language has it.
func sum(b []byte) int {
	h := fnv.New32a()
	h.Write(b)
	return int(h.Sum32())
}

// spot is a point, and whose it is.
type spot struct{ at, id int }

// spots are all points of nodes, in the order in which they are asked.
func spots(ns []api.Node) []spot {
	var list []spot
	for _, n := range ns {
		for i := range 4 * n.Weight {
			b := binary.BigEndian.AppendUint32(nil, uint32(n.ID))
			list = append(list, spot{sum(binary.BigEndian.AppendUint32(b, uint32(i))), n.ID})
		}
	}
	slices.SortFunc(list, func(a, b spot) int {
		if a.at != b.at {
			return a.at - b.at
		}
		return a.id - b.id
	})
	return list
}

// onward tells whose the first of some points is that is not below a place.
func onward(list []spot, place int) int {
	for _, s := range list {
		if s.at >= place {
			return s.id
		}
	}
	return list[0].id
}

// back undoes a step of the hash: what it was ahead of a last byte.
func back(w uint32, last byte) uint32 {
	const undo = 899433627 // times the factor, it is 1 more than a multiple of 1<<32
	return w*undo ^ uint32(last)
}

// keyTo makes keys with any hash: five bytes, of which the first two lead to
// where the other three come from.
func keyTo() func(want int) []byte {
	from := map[uint32][2]byte{}
	for a := range 256 {
		for b := range 256 {
			two := [2]byte{byte(a), byte(b)}
			from[uint32(sum(two[:]))] = two
		}
	}
	return func(want int) []byte {
		for n := range 1 << 24 {
			x, y, z := byte(n>>16), byte(n>>8), byte(n)
			if two, is := from[back(back(back(uint32(want), z), y), x)]; is {
				return []byte{two[0], two[1], x, y, z}
			}
		}
		return nil
	}
}

// holdPick holds what Pick tells against what it is to tell.
func holdPick(t *testing.T, ns []api.Node, key []byte, want int) {
	t.Helper()
	got, err := ring.Pick(ns, key)
	if got != want || err != nil {
		t.Errorf("Pick(%v, %d): got %d, %v, want %d", ns, key, got, plain.Told(err), want)
	}
}

// holdWrong holds what is told of wrong nodes against what is to be told.
func holdWrong(t *testing.T, ns []api.Node, want api.Errno) {
	t.Helper()
	if got := plain.Told(ring.Check(ns)); got != want {
		t.Errorf("Check(%v): got %v, want %v", ns, got, want)
	}
	for _, key := range [][]byte{nil, {}, []byte("key"), make([]byte, 300)} {
		got, err := ring.Pick(ns, key)
		if got != 0 || plain.Told(err) != want {
			t.Errorf("Pick(%v, %d): got %d, %v, want 0, %v", ns, key, got, plain.Told(err), want)
		}
	}
}

// some makes so many nodes, with IDs that go up from 1.
func some(count int) []api.Node {
	var ns []api.Node
	for i := range count {
		ns = append(ns, api.Node{ID: i + 1, Weight: i%api.MaxWide + 1})
	}
	return ns
}

// mixed makes nodes of which nothing is wrong, small and great.
func mixed(next func(int) int) []api.Node {
	var ns []api.Node
	for range 1 + next(api.MaxNodes) {
		id := next(60)
		if next(3) == 0 {
			id = greatest - id<<next(24)
		}
		earlier := slices.ContainsFunc(ns, func(n api.Node) bool { return n.ID == id })
		if !earlier {
			ns = append(ns, api.Node{ID: id, Weight: 1 + next(api.MaxWide)})
		}
	}
	return ns
}

func TestRI1Known(t *testing.T) {
	cases := []struct {
		in   string
		want int
	}{
		{"", 2166136261},
		{"a", 3826002220},
		{"b", 0xe70c2de5},
		{"foobar", 0xbf9cf968},
		{"\x00", 0x050c5d1f},
		{"\xff", (2166136261 ^ 0xff) * 16777619 % (1 << 32)},
		{"\xcc\x24\x31\xc4", 0},
		{"\x00\x00\x00\x00", 0x4b95f515},
	}
	for _, c := range cases {
		if got := ring.Hash([]byte(c.in)); got != c.want {
			t.Errorf("Hash(%q): got %d, want %d", c.in, got, c.want)
		}
	}
	if got := ring.Hash(nil); got != 2166136261 {
		t.Errorf("Hash of nil: got %d", got)
	}
}

func TestRI1AllBytes(t *testing.T) {
	for a := range 256 {
		for b := range 256 {
			in := []byte{byte(a), byte(b)}
			// What is above 32 bits is cut at each byte.
			want := (2166136261 ^ a) * 16777619 % (1 << 32)
			want = (want ^ b) * 16777619 % (1 << 32)
			if got := ring.Hash(in); got != want {
				t.Fatalf("Hash(%d): got %d, want %d", in, got, want)
			}
		}
	}
}

func TestRI1Long(t *testing.T) {
	next := numbers(14)
	for size := range 300 {
		in := someBytes(next, size)
		if got := ring.Hash(in); got != sum(in) {
			t.Fatalf("Hash of %d bytes: got %d, want %d", size, got, sum(in))
		}
	}
	in := someBytes(next, 1<<20)
	if got := ring.Hash(in); got != sum(in) || got < 0 || got > math.MaxUint32 {
		t.Errorf("Hash of many bytes: got %d, want %d", got, sum(in))
	}
}

func TestRI1NothingWritten(t *testing.T) {
	b := []byte("question")
	before := bytes.Clone(b)
	if got := ring.Hash(b[:5]); got != sum([]byte("quest")) {
		t.Errorf("what lies behind the length is read: got %d", got)
	}
	if !bytes.Equal(b, before) {
		t.Errorf("Hash writes: %q", b)
	}
}

func TestRI2One(t *testing.T) {
	to := keyTo()
	for _, id := range []int{0, 1, 255, 256, 65536, 1 << 24, greatest - 1, greatest} {
		for _, weight := range []int{1, 2, 15, 16} {
			ns := []api.Node{{ID: id, Weight: weight}}
			for _, key := range [][]byte{nil, {}, {0}, []byte("a"), to(0), to(math.MaxUint32)} {
				holdPick(t, ns, key, id)
			}
		}
	}
}

// TestRI2Edges asks with keys that lie at each point, and beside it.
func TestRI2Edges(t *testing.T) {
	to := keyTo()
	rings := [][]api.Node{
		{{ID: 5, Weight: 1}, {ID: 2, Weight: 1}},
		{{ID: 0, Weight: 2}, {ID: greatest, Weight: 1}, {ID: 70000, Weight: 3}},
		{{ID: 1, Weight: 16}, {ID: 2, Weight: 16}},
		{{ID: 256, Weight: 1}, {ID: 1, Weight: 1}, {ID: 65536, Weight: 1}, {ID: 1 << 24, Weight: 1}},
	}
	for _, ns := range rings {
		list := spots(ns)
		for i, s := range list {
			behind := list[(i+1)%len(list)]
			if s.at == behind.at {
				t.Fatalf("two points of %v are alike", ns)
			}
			holdPick(t, ns, to(s.at), s.id)
			holdPick(t, ns, to(s.at+1), behind.id) // behind the last one the first one
			if ahead := list[(i+len(list)-1)%len(list)]; ahead.at != s.at-1 {
				holdPick(t, ns, to(s.at-1), s.id)
			}
		}
		holdPick(t, ns, to(0), list[0].id)
		holdPick(t, ns, to(math.MaxUint32), list[0].id)
		holdPick(t, ns, to(1<<31), onward(list, 1<<31))
		holdPick(t, ns, to(1<<31-1), onward(list, 1<<31-1))
	}
}

func TestRI2AsTheSortedPoints(t *testing.T) {
	next := numbers(7)
	for range 300 {
		ns := mixed(next)
		list := spots(ns)
		for range 20 {
			key := someBytes(next, next(12))
			holdPick(t, ns, key, onward(list, sum(key)))
		}
	}
}

// TestRI2EachWeight has points that are there only from some weight on.
func TestRI2EachWeight(t *testing.T) {
	to := keyTo()
	for weight := 1; weight <= api.MaxWide; weight++ {
		ns := []api.Node{{ID: 9, Weight: weight}, {ID: 4, Weight: 1}}
		list := spots(ns)
		if len(list) != 4*weight+4 {
			t.Fatalf("weight %d: %d points", weight, len(list))
		}
		for _, s := range spots([]api.Node{{ID: 9, Weight: api.MaxWide}}) {
			holdPick(t, ns, to(s.at), onward(list, s.at))
		}
	}
}

func TestRI2Alike(t *testing.T) {
	to := keyTo()
	twins := [][]api.Node{
		// All points of these are alike.
		{{ID: 7521590, Weight: 1}, {ID: 1812048687, Weight: 1}},
		{{ID: 3217966, Weight: 2}, {ID: 614657577, Weight: 2}},
		{{ID: 2829175, Weight: 1}, {ID: 1254304338, Weight: 16}},
		{{ID: 620755465, Weight: 16}, {ID: 7793152, Weight: 3}},
		// These have points that are alike, with other numbers.
		{{ID: 596830002, Weight: 16}, {ID: 577662123, Weight: 16}},
	}
	for _, ns := range twins {
		list, alike := spots(ns), 0
		for i, s := range list {
			if i > 0 && list[i-1].at == s.at {
				alike++
			}
		}
		if alike < 4 {
			t.Fatalf("%v: %d points are alike", ns, alike)
		}
		for _, s := range list {
			for _, other := range [][]api.Node{nil, {{ID: 8, Weight: 1}}} {
				all := slices.Concat(ns, other)
				least := onward(spots(all), s.at)
				holdPick(t, all, to(s.at), least)
				slices.Reverse(all) // the order in which they are handed in is nothing
				holdPick(t, all, to(s.at), least)
			}
			holdPick(t, ns, to(s.at+1), onward(list, s.at+1))
		}
	}
}

func TestRI2TakesNobodyAlong(t *testing.T) {
	next := numbers(3)
	for range 60 {
		ns := mixed(next)
		for range 10 {
			key := someBytes(next, 8)
			was, err := ring.Pick(ns, key)
			if err != nil {
				t.Fatal(plain.Told(err))
			}
			for i, gone := range ns {
				if left := slices.Delete(slices.Clone(ns), i, i+1); gone.ID != was && len(left) > 0 {
					holdPick(t, left, key, was)
				}
				if gone.ID != was && gone.Weight > 1 {
					less := slices.Clone(ns)
					less[i].Weight--
					holdPick(t, less, key, was)
				}
			}
			slices.Reverse(ns)
			holdPick(t, ns, key, was)
		}
	}
}

func TestRI2None(t *testing.T) {
	holdWrong(t, nil, api.ErrNone)
	holdWrong(t, []api.Node{}, api.ErrNone)
	holdWrong(t, make([]api.Node, 0, 9), api.ErrNone)
	holdWrong(t, some(3)[:0], api.ErrNone)
}

func TestRI2Full(t *testing.T) {
	for _, count := range []int{1, 39, 40} {
		ns := some(count)
		holdPick(t, ns, []byte("key"), onward(spots(ns), sum([]byte("key"))))
	}
	for _, count := range []int{41, 42, 1000} {
		holdWrong(t, some(count), api.ErrFull)
		// How many there are is looked at ahead of any one of them.
		holdWrong(t, make([]api.Node, count), api.ErrFull)
		for _, place := range []int{0, 20, 40} {
			ns := some(count)
			ns[place].ID = -1
			holdWrong(t, ns, api.ErrFull)
			ns = some(count)
			ns[place].ID = ns[(place+1)%count].ID
			holdWrong(t, ns, api.ErrFull)
		}
	}
	holdWrong(t, slices.Repeat(some(1), 41), api.ErrFull)
}

func TestRI2Range(t *testing.T) {
	wrongs := []api.Node{{}, {ID: 5}}
	for _, id := range []int{-1, -2, -greatest, math.MinInt32, math.MinInt, greatest + 1, 1 << 32, 1<<32 + 500, math.MaxInt} {
		wrongs = append(wrongs, api.Node{ID: id, Weight: 1}, api.Node{ID: id, Weight: 16}, api.Node{ID: id})
	}
	for _, weight := range []int{0, -1, -16, math.MinInt, 17, 18, 257, 1<<32 + 1, math.MaxInt} {
		wrongs = append(wrongs, api.Node{ID: 500, Weight: weight}, api.Node{Weight: weight}, api.Node{ID: greatest, Weight: weight})
	}
	for _, wrong := range wrongs {
		holdWrong(t, []api.Node{wrong}, api.ErrRange)
		for _, count := range []int{2, 3, 40} {
			for _, place := range []int{0, 1, count / 2, count - 1} {
				ns := some(count)
				ns[place] = wrong
				holdWrong(t, ns, api.ErrRange)
			}
		}
	}
}

func TestRI2Twice(t *testing.T) {
	for _, id := range []int{0, 5, 256, greatest} {
		holdWrong(t, []api.Node{{ID: id, Weight: 1}, {ID: id, Weight: 1}}, api.ErrTwice)
		holdWrong(t, []api.Node{{ID: id, Weight: 1}, {ID: id, Weight: 16}}, api.ErrTwice)
		holdWrong(t, []api.Node{{ID: id, Weight: 2}, {ID: 77, Weight: 2}, {ID: id, Weight: 1}}, api.ErrTwice)
	}
	for _, places := range [][2]int{{0, 1}, {0, 39}, {38, 39}, {10, 30}} {
		ns := some(40)
		ns[places[1]].ID = ns[places[0]].ID
		holdWrong(t, ns, api.ErrTwice)
	}
}

func TestRI2OneByOne(t *testing.T) {
	good, twin, wide, low := api.Node{ID: 5, Weight: 1}, api.Node{ID: 5, Weight: 3}, api.Node{ID: 9, Weight: 17}, api.Node{ID: -1, Weight: 1}
	wrongTwin := api.Node{ID: 5, Weight: 0}
	cases := []struct {
		ns   []api.Node
		want api.Errno
	}{
		{[]api.Node{good, twin, wide}, api.ErrTwice},
		{[]api.Node{good, twin, low}, api.ErrTwice},
		{[]api.Node{good, wide, twin}, api.ErrRange},
		{[]api.Node{low, good, twin}, api.ErrRange},
		{[]api.Node{good, low, low}, api.ErrRange},
		{[]api.Node{good, wide, wide}, api.ErrRange},
		// Of one node its numbers are looked at ahead of the others' IDs.
		{[]api.Node{good, wrongTwin}, api.ErrRange},
		{[]api.Node{wrongTwin, good}, api.ErrRange},
		{[]api.Node{good, wrongTwin, twin}, api.ErrRange},
		{[]api.Node{good, twin, wrongTwin}, api.ErrTwice},
	}
	for _, c := range cases {
		holdWrong(t, c.ns, c.want)
	}
}

func TestRI2NothingKept(t *testing.T) {
	next := numbers(21)
	for range 50 {
		ns := mixed(next)
		key := someBytes(next, 9)
		nodes, bytesBefore := slices.Clone(ns), bytes.Clone(key)
		count, size := 1+next(len(ns)), next(len(key))
		want := onward(spots(ns[:count]), sum(key[:size]))
		holdPick(t, ns[:count], key[:size], want)
		if !slices.Equal(ns, nodes) || !bytes.Equal(key, bytesBefore) {
			t.Fatalf("Pick writes: %v, %d", ns, key)
		}
		for i := range ns[count:] { // what lies behind is not read
			ns[count+i] = api.Node{ID: -1}
		}
		clear(key[size:])
		holdPick(t, ns[:count], key[:size], want)
	}
}

func TestRI2Check(t *testing.T) {
	next := numbers(5)
	for range 100 {
		if ns := mixed(next); ring.Check(ns) != nil {
			t.Fatalf("Check(%v): got %v", ns, plain.Told(ring.Check(ns)))
		}
	}
}
