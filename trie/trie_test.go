package trie_test

import (
	"bytes"
	"math"
	"slices"
	"testing"

	"pointsman/api"
	"pointsman/plain"
	"pointsman/trie"
)

// ones makes so many bytes of which all bits are 1.
func ones(size int) []byte { return bytes.Repeat([]byte{255}, size) }

// bit tells the bit of an address at a place, counted from the highest one of
// its first byte.
func bit(addr []byte, at int) byte {
	weight := []byte{128, 64, 32, 16, 8, 4, 2, 1}[at%8]
	return addr[at/8] / weight % 2
}

// turned tells an address with one bit turned.
func turned(addr []byte, at int) []byte {
	told := slices.Clone(addr)
	told[at/8] ^= []byte{128, 64, 32, 16, 8, 4, 2, 1}[at%8]
	return told
}

// numbers makes a source of numbers below others, the same each time.
func numbers(seed uint32) func(int) int {
	return func(n int) int {
		seed = seed*1664525 + 1013904223
		return int(seed>>16) % n
	}
}

// fill makes so many bytes of such a source.
func fill(below func(int) int, size int) []byte {
	b := make([]byte, size)
	for i := range b {
		b[i] = byte(below(256))
	}
	return b
}

// answer is what Get tells.
type answer struct {
	val, n int
	has    bool
}

func get(t *trie.Trie, addr []byte) answer {
	val, n, has := t.Get(addr)
	return answer{val, n, has}
}

// put is what Put takes.
type put struct {
	addr   []byte
	n, val int
}

// filled makes a trie of such calls, none of which has an error.
func filled(t *testing.T, puts ...put) *trie.Trie {
	t.Helper()
	x := trie.New()
	for _, p := range puts {
		if err := x.Put(p.addr, p.n, p.val); err != nil {
			t.Fatalf("Put(%d, %d, %d): %v", p.addr, p.n, p.val, err)
		}
	}
	return x
}

// hold holds what a trie tells against what it is to tell.
func hold(t *testing.T, x *trie.Trie, addr []byte, want answer) {
	t.Helper()
	if got := get(x, addr); got != want {
		t.Fatalf("Get(%d): got %v, want %v", addr, got, want)
	}
}

// holdLen holds how many values a trie has against how many it is to have.
func holdLen(t *testing.T, x *trie.Trie, want int) {
	t.Helper()
	if got := x.Len(); got != want {
		t.Fatalf("Len: got %d, want %d", got, want)
	}
}

// list has values for beginnings as the document tells them: by their bits,
// each a byte of a text.
type list map[string]int

func bitsOf(addr []byte, n int) string {
	text := make([]byte, n)
	for i := range text {
		text[i] = '0' + bit(addr, i)
	}
	return string(text)
}

func (l list) get(addr []byte) answer {
	for n := min(len(addr), api.MaxAddr) * 8; n >= 0; n-- {
		if val, has := l[bitsOf(addr, n)]; has {
			return answer{val, n, true}
		}
	}
	return answer{}
}

func TestTI1Empty(t *testing.T) {
	x := trie.New()
	for size := range 20 {
		hold(t, x, ones(size), answer{})
		hold(t, x, make([]byte, size), answer{})
	}
	hold(t, x, nil, answer{})
	holdLen(t, x, 0)
}

func TestTI1Get(t *testing.T) {
	x := filled(t,
		put{[]byte{10}, 8, 1},
		put{[]byte{10, 128}, 9, 2},
		put{[]byte{10, 200, 3}, 24, 3},
		put{[]byte{192, 168}, 16, -4},
		put{[]byte{192, 168, 7, 9}, 32, math.MinInt},
		put{[]byte{128}, 1, 0},
	)
	holdLen(t, x, 6)
	for _, c := range []struct {
		addr []byte
		want answer
	}{
		{nil, answer{}},
		{[]byte{0}, answer{}},
		{[]byte{9}, answer{}},
		{[]byte{11}, answer{}},
		{[]byte{127, 255, 255, 255}, answer{}},
		{[]byte{10}, answer{1, 8, true}},
		{[]byte{10, 0}, answer{1, 8, true}},
		{[]byte{10, 127, 255, 255}, answer{1, 8, true}},
		{[]byte{10, 128}, answer{2, 9, true}},
		{[]byte{10, 200}, answer{2, 9, true}},
		{[]byte{10, 200, 2}, answer{2, 9, true}},
		{[]byte{10, 200, 3}, answer{3, 24, true}},
		{[]byte{10, 200, 3, 255}, answer{3, 24, true}},
		{[]byte{128}, answer{0, 1, true}},
		{[]byte{192}, answer{0, 1, true}},
		{[]byte{192, 169}, answer{0, 1, true}},
		{[]byte{192, 168}, answer{-4, 16, true}},
		{[]byte{192, 168, 7}, answer{-4, 16, true}},
		{[]byte{192, 168, 7, 8}, answer{-4, 16, true}},
		{[]byte{192, 168, 7, 9}, answer{math.MinInt, 32, true}},
		{[]byte{192, 168, 7, 9, 5}, answer{math.MinInt, 32, true}},
		{ones(16), answer{0, 1, true}},
	} {
		hold(t, x, c.addr, c.want)
	}
}

// TestTI1NoBits has a value for the beginning of all addresses.
func TestTI1NoBits(t *testing.T) {
	for size := range 17 {
		x := filled(t, put{ones(size), 0, 7})
		holdLen(t, x, 1)
		hold(t, x, nil, answer{7, 0, true})
		hold(t, x, []byte{0}, answer{7, 0, true})
		hold(t, x, ones(16), answer{7, 0, true})
		hold(t, x, ones(40), answer{7, 0, true})
	}
	x := filled(t, put{[]byte{255}, 1, 1}, put{nil, 0, 2}, put{nil, 0, 3})
	holdLen(t, x, 2)
	hold(t, x, nil, answer{3, 0, true})
	hold(t, x, []byte{127}, answer{3, 0, true})
	hold(t, x, []byte{128}, answer{1, 1, true})
}

// TestTI1Instead: what is put for just the same bits stands instead, whatever
// is behind them; what is put for more or fewer stands beside it.
func TestTI1Instead(t *testing.T) {
	x := filled(t, put{[]byte{10, 128}, 9, 1})
	for i, addr := range [][]byte{{10, 128}, {10, 255}, {10, 129, 3}, append([]byte{10, 200}, ones(14)...)} {
		if err := x.Put(addr, 9, -i); err != nil {
			t.Fatal(err)
		}
		holdLen(t, x, 1)
		hold(t, x, []byte{10, 128}, answer{-i, 9, true})
	}
	for i, n := range []int{8, 10, 9, 0, 16, 15} {
		if err := x.Put([]byte{10, 128}, n, 50+n); err != nil {
			t.Fatal(err)
		}
		holdLen(t, x, []int{2, 3, 3, 4, 5, 6}[i])
	}
	hold(t, x, []byte{10, 128}, answer{66, 16, true})
	hold(t, x, []byte{10, 129}, answer{65, 15, true})
	hold(t, x, []byte{10, 130}, answer{60, 10, true})
	hold(t, x, []byte{10, 192}, answer{59, 9, true})
	hold(t, x, []byte{10, 127}, answer{58, 8, true})
	hold(t, x, []byte{11, 128}, answer{50, 0, true})
}

// TestTI1EachPair puts values for each two beginnings of one address, in both
// orders.
func TestTI1EachPair(t *testing.T) {
	addr := fill(numbers(4), 16)
	for long := range 129 {
		for short := range long {
			first, second := put{addr, short, -short}, put{addr, long, -long}
			for _, x := range []*trie.Trie{filled(t, first, second), filled(t, second, first)} {
				holdLen(t, x, 2)
				hold(t, x, addr, answer{-long, long, true})
				hold(t, x, turned(addr, long-1), answer{-short, short, true})
				if short > 0 {
					hold(t, x, turned(addr, short-1), answer{})
				}
			}
		}
	}
}

// TestTI1EachBit turns each bit of an address: just those that are of a
// beginning part it from the value there.
func TestTI1EachBit(t *testing.T) {
	below := numbers(9)
	for size := range 17 {
		addr := fill(below, size)
		for n := range size*8 + 1 {
			x := filled(t, put{addr, n, n - 3})
			hold(t, x, addr, answer{n - 3, n, true})
			for at := range size * 8 {
				want := answer{n - 3, n, true}
				if at < n {
					want = answer{}
				}
				hold(t, x, turned(addr, at), want)
			}
		}
	}
}

// TestTI1Lengths asks addresses of other lengths: one has a beginning where it
// has as many bits, also where it is longer than any that can be put.
func TestTI1Lengths(t *testing.T) {
	for n := range 129 {
		x := filled(t, put{make([]byte, 16), n, 5})
		for size := range 24 {
			want := answer{5, n, true}
			if size*8 < n {
				want = answer{}
			}
			hold(t, x, make([]byte, size), want)
		}
		hold(t, x, make([]byte, 100000), answer{5, n, true})
	}
}

// TestTI1Errors has calls that are wrong, none of which changes a thing.
func TestTI1Errors(t *testing.T) {
	x := filled(t, put{nil, 0, 1}, put{[]byte{10}, 8, 2})
	wrong := func(addr []byte, n int) {
		t.Helper()
		if err := x.Put(addr, n, 9); plain.Told(err) != api.ErrRange {
			t.Errorf("Put of %d bytes, %d: got %v", len(addr), n, err)
		}
		holdLen(t, x, 2)
		hold(t, x, ones(16), answer{1, 0, true})
		hold(t, x, []byte{10, 255}, answer{2, 8, true})
	}
	for size := range 40 {
		addr := append([]byte{10}, ones(size)...)[:size]
		for _, n := range []int{math.MinInt, -8, -1, size*8 + 1, size*8 + 8, 1 << 32, 1<<32 + 8, math.MaxInt} {
			wrong(addr, n)
		}
		if size > api.MaxAddr {
			for _, n := range []int{0, 1, 8, 127, 128, 129, size * 8} {
				wrong(addr, n)
			}
		}
	}
	wrong(nil, 1)
	wrong(ones(2)[:1], 9)
	wrong(make([]byte, 1<<20), 0)
	if err := trie.New().Put(ones(16), 128, 0); err != nil {
		t.Errorf("Put of all that can be: %v", err)
	}
}

// TestTI1ErrorsOfEmpty: a wrong call lays nothing in an empty trie.
func TestTI1ErrorsOfEmpty(t *testing.T) {
	x := trie.New()
	for _, n := range []int{-1, 9} {
		if err := x.Put([]byte{10}, n, 1); plain.Told(err) != api.ErrRange {
			t.Errorf("Put of %d bits: got %v", n, err)
		}
	}
	holdLen(t, x, 0)
	hold(t, x, []byte{10}, answer{})
}

// TestTI1OfMany holds tries against plain lists: of addresses that are much
// alike, and of any.
func TestTI1OfMany(t *testing.T) {
	below := numbers(2)
	for round := range 300 {
		x, l := trie.New(), list{}
		values := []int{2, 3, 256}[round%3]
		address := func() []byte {
			addr := make([]byte, below([]int{3, 6, 18}[round/3%3]))
			for i := range addr {
				addr[i] = byte(below(values) * 255 / (values - 1))
			}
			return addr
		}
		for range 150 {
			addr := address()
			n, val := below(len(addr)*8+3)-1, below(1000)-500
			err := x.Put(addr, n, val)
			if len(addr) > api.MaxAddr || n < 0 || n > len(addr)*8 {
				if plain.Told(err) != api.ErrRange {
					t.Fatalf("Put(%d, %d): got %v", addr, n, err)
				}
			} else {
				if err != nil {
					t.Fatalf("Put(%d, %d): %v", addr, n, err)
				}
				l[bitsOf(addr, n)] = val
			}
			holdLen(t, x, len(l))
			hold(t, x, addr, l.get(addr))
			other := address()
			hold(t, x, other, l.get(other))
		}
	}
}

// TestTI1Order puts the same values in orders of any kind: all tell the same.
func TestTI1Order(t *testing.T) {
	below := numbers(6)
	var puts []put
	for i := range 60 {
		addr := make([]byte, 2)
		addr[0] = byte(below(4)) << 6
		addr[1] = byte(below(256))
		n := below(17)
		if !slices.ContainsFunc(puts, func(p put) bool { return p.n == n && bitsOf(p.addr, n) == bitsOf(addr, n) }) {
			puts = append(puts, put{addr, n, i})
		}
	}
	first := filled(t, puts...)
	for range 20 {
		for i := range puts {
			j := below(i + 1)
			puts[i], puts[j] = puts[j], puts[i]
		}
		x := filled(t, puts...)
		holdLen(t, x, len(puts))
		for high := range 256 {
			for low := 0; low < 256; low += 5 {
				addr := []byte{byte(high), byte(low)}
				hold(t, x, addr, get(first, addr))
			}
		}
	}
}

// TestTI1Great has many values for whole addresses.
func TestTI1Great(t *testing.T) {
	x := trie.New()
	below := numbers(1)
	const most, step = 200000, 1000
	var some [][]byte
	for i := range most {
		addr := append(fill(below, 13), byte(i>>16), byte(i>>8), byte(i))
		if err := x.Put(addr, 128, i); err != nil {
			t.Fatal(err)
		}
		if i%step == 0 {
			some = append(some, addr)
		}
	}
	holdLen(t, x, most)
	for i, addr := range some {
		hold(t, x, addr, answer{i * step, 128, true})
		hold(t, x, turned(addr, 127), answer{})
	}
}

// TestTI1KeepsNothing changes what was handed in, which no call has written to.
func TestTI1KeepsNothing(t *testing.T) {
	room := []byte{10, 128, 77, 99}
	x := filled(t, put{room[:2], 9, 1}, put{room[:3], 24, 2})
	hold(t, x, room[:2], answer{1, 9, true})
	hold(t, x, room[:1], answer{})
	hold(t, x, room, answer{2, 24, true})
	if !bytes.Equal(room, []byte{10, 128, 77, 99}) {
		t.Errorf("what was handed in is changed: %d", room)
	}
	clear(room)
	hold(t, x, room, answer{})
	hold(t, x, []byte{10, 255}, answer{1, 9, true})
	hold(t, x, []byte{10, 128, 77}, answer{2, 24, true})
	holdLen(t, x, 2)
}

// TestTI1Apart: no trie hangs on another, and asking changes none.
func TestTI1Apart(t *testing.T) {
	x := filled(t, put{[]byte{10}, 8, 1})
	y := filled(t, put{[]byte{10}, 8, 2}, put{[]byte{10}, 7, 3})
	for range 3 {
		hold(t, x, []byte{10}, answer{1, 8, true})
		hold(t, y, []byte{10}, answer{2, 8, true})
		hold(t, x, []byte{11}, answer{})
		hold(t, y, []byte{11}, answer{3, 7, true})
		holdLen(t, x, 1)
		holdLen(t, y, 2)
	}
}
