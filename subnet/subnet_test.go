package subnet_test

import (
	"bytes"
	"math"
	"slices"
	"testing"

	"pointsman/api"
	"pointsman/plain"
	"pointsman/subnet"
)

// ones makes so many bytes of which all bits are 1.
func ones(size int) []byte { return bytes.Repeat([]byte{255}, size) }

// long makes an address of 16 bytes that begins so.
func long(first ...byte) []byte { return append(first, make([]byte, 16-len(first))...) }

// bit tells the bit of an address at a place, counted from the highest one of
// its first byte.
func bit(addr []byte, at int) int {
	weight := []byte{128, 64, 32, 16, 8, 4, 2, 1}[at%8]
	return int(addr[at/8] / weight % 2)
}

// numbers makes a source of numbers below others, the same each time.
func numbers(seed uint32) func(int) int {
	return func(n int) int {
		seed = seed*1664525 + 1013904223
		return int(seed>>16) % n
	}
}

// fill makes so many bytes of such a source.
func fill(below func(int) int, size int) []byte {
	b := make([]byte, size)
	for i := range b {
		b[i] = byte(below(256))
	}
	return b
}

func TestSU1Mask(t *testing.T) {
	cases := []struct {
		addr []byte
		n    int
		want []byte
	}{
		{nil, 0, nil},
		{[]byte{}, 0, nil},
		{[]byte{255}, 0, []byte{0}},
		{[]byte{255}, 1, []byte{128}},
		{[]byte{255}, 7, []byte{254}},
		{[]byte{255}, 8, []byte{255}},
		{[]byte{127}, 1, []byte{0}},
		{[]byte{1}, 7, []byte{0}},
		{[]byte{255, 255}, 0, []byte{0, 0}},
		{[]byte{255, 255}, 8, []byte{255, 0}},
		{[]byte{255, 255}, 9, []byte{255, 128}},
		{[]byte{255, 255}, 15, []byte{255, 254}},
		{[]byte{255, 255}, 16, []byte{255, 255}},
		{[]byte{10, 200, 3, 77}, 20, []byte{10, 200, 0, 0}},
		{[]byte{10, 200, 3, 77}, 24, []byte{10, 200, 3, 0}},
		{[]byte{10, 200, 3, 77}, 31, []byte{10, 200, 3, 76}},
		{[]byte{10, 200, 3, 77}, 32, []byte{10, 200, 3, 77}},
		{ones(16), 65, long(255, 255, 255, 255, 255, 255, 255, 255, 128)},
		{ones(16), 128, ones(16)},
	}
	for _, c := range cases {
		if got, err := subnet.Mask(c.addr, c.n); err != nil || !bytes.Equal(got, c.want) {
			t.Errorf("Mask(%d, %d): got %d, %v, want %d", c.addr, c.n, got, err, c.want)
		}
	}
}

// TestSU1EachBit looks at every bit of every mask of addresses of any length:
// no bound of it is said.
func TestSU1EachBit(t *testing.T) {
	below := numbers(7)
	for size := range 40 {
		for _, addr := range [][]byte{ones(size), make([]byte, size), fill(below, size)} {
			for n := range size*8 + 1 {
				got, err := subnet.Mask(addr, n)
				if err != nil || len(got) != size {
					t.Fatalf("Mask(%d, %d): got %d, %v", addr, n, got, err)
				}
				for at := range size * 8 {
					want := 0
					if at < n {
						want = bit(addr, at)
					}
					if bit(got, at) != want {
						t.Fatalf("Mask(%d, %d): got %d, bit %d is not %d", addr, n, got, at, want)
					}
				}
			}
		}
	}
}

func TestSU1LongAddress(t *testing.T) {
	got, err := subnet.Mask(ones(100000), 700001)
	want := slices.Concat(ones(87500), []byte{128}, make([]byte, 12499))
	if err != nil || !bytes.Equal(got, want) {
		t.Errorf("got %d bytes, %v", len(got), err)
	}
}

func TestSU1Range(t *testing.T) {
	for _, size := range []int{0, 1, 2, 4, 16, 17} {
		for _, n := range []int{math.MinInt, math.MinInt + 7, -1 << 32, -8, -1, size*8 + 1, size*8 + 8, 1 << 32, math.MaxInt - 7, math.MaxInt} {
			if got, err := subnet.Mask(ones(size), n); plain.Told(err) != api.ErrRange || len(got) > 0 {
				t.Errorf("%d bytes, %d bits: got %d, %v", size, n, got, err)
			}
		}
	}
	room := ones(4)
	if got, err := subnet.Mask(room[:1], 9); plain.Told(err) != api.ErrRange || len(got) > 0 {
		t.Errorf("a bit behind the list: got %d, %v", got, err)
	}
}

func TestSU1IsFresh(t *testing.T) {
	room := []byte{1, 2, 3, 4, 255}
	for _, n := range []int{0, 3, 8, 31, 32} {
		one, err := subnet.Mask(room[:4], n)
		if err != nil {
			t.Fatal(err)
		}
		want := slices.Clone(one)
		two, _ := subnet.Mask(room[:4], n)
		for i := range one[:cap(one)] {
			one[:cap(one)][i] = 99
		}
		if !bytes.Equal(room, []byte{1, 2, 3, 4, 255}) || !bytes.Equal(two, want) {
			t.Errorf("%d bits: memory is shared: %d, %d", n, room, two)
		}
	}
}

func TestSU3In(t *testing.T) {
	cases := []struct {
		addr []byte
		s    api.Subnet
		want bool
	}{
		{[]byte{10, 200, 0, 0}, api.Subnet{Family: 1, Source: 9, Addr: []byte{10, 128, 0, 0}}, true},
		{[]byte{10, 127, 0, 0}, api.Subnet{Family: 1, Source: 9, Addr: []byte{10, 128, 0, 0}}, false},
		{[]byte{10, 128, 0, 0}, api.Subnet{Family: 1, Source: 9, Addr: []byte{10, 255, 7, 7}}, true},
		{[]byte{11, 128, 0, 0}, api.Subnet{Family: 1, Source: 9, Addr: []byte{10, 128, 0, 0}}, false},
		{[]byte{1, 2, 3, 4}, api.Subnet{Family: 1, Addr: []byte{200, 0, 0, 1}}, true},
		{[]byte{1, 2, 3, 4}, api.Subnet{Family: 1, Source: 32, Addr: []byte{1, 2, 3, 4}}, true},
		{[]byte{1, 2, 3, 5}, api.Subnet{Family: 1, Source: 32, Addr: []byte{1, 2, 3, 4}}, false},
		{[]byte{1, 2, 3, 5}, api.Subnet{Family: 1, Source: 31, Addr: []byte{1, 2, 3, 4}}, true},
		{[]byte{1, 2, 3, 5}, api.Subnet{Family: 1, Source: 31, Scope: 32, Addr: []byte{1, 2, 3, 4}}, true},
		{[]byte{9, 9, 9, 9}, api.Subnet{Family: 1, Source: 0, Scope: 32, Addr: []byte{1, 2, 3, 4}}, true},
		{long(32, 1, 13), api.Subnet{Family: 2, Source: 20, Addr: long(32, 1, 15, 255)}, true},
		{long(32, 1, 31), api.Subnet{Family: 2, Source: 20, Addr: long(32, 1, 15, 255)}, false},
		{ones(16), api.Subnet{Family: 2, Source: 128, Scope: 128, Addr: ones(16)}, true},
		{ones(16), api.Subnet{Family: 2, Addr: long()}, true},
	}
	for _, c := range cases {
		if got := subnet.In(c.addr, c.s); got != c.want {
			t.Errorf("In(%d, %v): got %v", c.addr, c.s, got)
		}
	}
}

// TestSU3Length asks addresses of another length, of which all bits are alike.
func TestSU3Length(t *testing.T) {
	for family, own := range map[int]int{1: 4, 2: 16} {
		for _, source := range []int{0, 1, 8, 32} {
			s := api.Subnet{Family: family, Source: source, Addr: ones(own)}
			for size := range 20 {
				if got := subnet.In(ones(size), s); got != (size == own) {
					t.Errorf("%d bytes, %v: got %v", size, s, got)
				}
			}
		}
	}
}

// TestSU3Wrong asks subnets of which Encode has an error: though the address is
// that of the subnet, it is not in it.
func TestSU3Wrong(t *testing.T) {
	for _, c := range wrong() {
		for _, addr := range [][]byte{c.s.Addr, ones(4), ones(16), nil} {
			if subnet.In(addr, c.s) {
				t.Errorf("%s: %d is in %v", c.what, addr, c.s)
			}
		}
	}
}

// TestSU3EachBit turns each bit of an address: it is in the subnet while that
// is none of the first Source ones.
func TestSU3EachBit(t *testing.T) {
	below := numbers(3)
	for family, size := range map[int]int{1: 4, 2: 16} {
		for source := range size*8 + 1 {
			s := api.Subnet{Family: family, Source: source, Scope: below(size*8 + 1), Addr: fill(below, size)}
			for at := range size * 8 {
				addr := slices.Clone(s.Addr)
				addr[at/8] ^= 1 << (7 - at%8)
				if got := subnet.In(addr, s); got != (at >= source) {
					t.Fatalf("In(%d, %v): got %v", addr, s, got)
				}
			}
		}
	}
}

func TestSU3WritesNothing(t *testing.T) {
	addr, room := []byte{10, 255, 3, 4}, []byte{10, 254, 3, 4, 99}
	subnet.In(addr, api.Subnet{Family: 1, Source: 9, Addr: room[:4]})
	if !bytes.Equal(addr, []byte{10, 255, 3, 4}) || !bytes.Equal(room, []byte{10, 254, 3, 4, 99}) {
		t.Errorf("what was handed in is changed: %d, %d", addr, room)
	}
}
