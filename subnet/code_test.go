package subnet_test

import (
	"bytes"
	"math"
	"slices"
	"testing"

	"pointsman/api"
	"pointsman/plain"
	"pointsman/subnet"
)

// alike tells if two subnets are the same; an empty list and nil are.
func alike(a, b api.Subnet) bool {
	return a.Family == b.Family && a.Source == b.Source && a.Scope == b.Scope && bytes.Equal(a.Addr, b.Addr)
}

// pairs has subnets, of which no bit behind the first Source ones is 1, with
// their bytes.
var pairs = []struct {
	s api.Subnet
	b []byte
}{
	{api.Subnet{Family: 1, Addr: []byte{0, 0, 0, 0}}, []byte{0, 1, 0, 0}},
	{api.Subnet{Family: 1, Scope: 32, Addr: []byte{0, 0, 0, 0}}, []byte{0, 1, 0, 32}},
	{api.Subnet{Family: 1, Source: 1, Addr: []byte{128, 0, 0, 0}}, []byte{0, 1, 1, 0, 128}},
	{api.Subnet{Family: 1, Source: 1, Addr: []byte{0, 0, 0, 0}}, []byte{0, 1, 1, 0, 0}},
	{api.Subnet{Family: 1, Source: 8, Scope: 3, Addr: []byte{255, 0, 0, 0}}, []byte{0, 1, 8, 3, 255}},
	{api.Subnet{Family: 1, Source: 9, Addr: []byte{10, 128, 0, 0}}, []byte{0, 1, 9, 0, 10, 128}},
	{api.Subnet{Family: 1, Source: 24, Scope: 20, Addr: []byte{10, 0, 0, 0}}, []byte{0, 1, 24, 20, 10, 0, 0}},
	{api.Subnet{Family: 1, Source: 25, Addr: []byte{10, 1, 2, 128}}, []byte{0, 1, 25, 0, 10, 1, 2, 128}},
	{api.Subnet{Family: 1, Source: 32, Scope: 32, Addr: []byte{10, 1, 2, 3}}, []byte{0, 1, 32, 32, 10, 1, 2, 3}},
	{api.Subnet{Family: 2, Addr: long()}, []byte{0, 2, 0, 0}},
	{api.Subnet{Family: 2, Source: 33, Scope: 128, Addr: long(32, 1, 13, 184, 128)}, []byte{0, 2, 33, 128, 32, 1, 13, 184, 128}},
	{api.Subnet{Family: 2, Source: 56, Scope: 48, Addr: long(32, 1, 13, 184, 7)}, []byte{0, 2, 56, 48, 32, 1, 13, 184, 7, 0, 0}},
	{api.Subnet{Family: 2, Source: 127, Addr: append(ones(15), 254)}, slices.Concat([]byte{0, 2, 127, 0}, ones(15), []byte{254})},
	{api.Subnet{Family: 2, Source: 128, Scope: 128, Addr: ones(16)}, append([]byte{0, 2, 128, 128}, ones(16)...)},
}

func TestSU2Encode(t *testing.T) {
	for _, c := range pairs {
		if got, err := subnet.Encode(c.s); err != nil || !bytes.Equal(got, c.b) {
			t.Errorf("%v: got %d, %v, want %d", c.s, got, err, c.b)
		}
	}
}

// TestSU2EncodeDropsBits encodes addresses that have bits behind the first
// Source ones.
func TestSU2EncodeDropsBits(t *testing.T) {
	for _, c := range pairs {
		s := c.s
		s.Addr = slices.Clone(s.Addr)
		for at := s.Source; at < len(s.Addr)*8; at++ {
			s.Addr[at/8] |= 1 << (7 - at%8)
		}
		if got, err := subnet.Encode(s); err != nil || !bytes.Equal(got, c.b) {
			t.Errorf("%v: got %d, %v, want %d", s, got, err, c.b)
		}
	}
}

func TestSU2Decode(t *testing.T) {
	for _, c := range pairs {
		if got, err := subnet.Decode(c.b); err != nil || !alike(got, c.s) {
			t.Errorf("%d: got %v, %v, want %v", c.b, got, err, c.s)
		}
	}
}

// wrong has subnets that can't be sent, with the error that is told.
func wrong() []wrongSubnet {
	cases := []wrongSubnet{
		{"nothing", api.Subnet{}, api.ErrRange},
		{"Family ahead of the others", api.Subnet{Family: 3, Source: -1, Scope: 999, Addr: ones(5)}, api.ErrRange},
		{"Addr ahead of Source", api.Subnet{Family: 1, Source: 33, Addr: ones(16)}, api.ErrShort},
		{"Addr ahead of Scope", api.Subnet{Family: 2, Scope: 129, Addr: ones(4)}, api.ErrShort},
		{"Addr longer in memory", api.Subnet{Family: 1, Addr: ones(4)[:3]}, api.ErrShort},
	}
	for _, n := range []int{math.MinInt, -65535, -1, 0, 3, 4, 16, 256, 257, 65537, 1<<32 + 1, math.MaxInt} {
		cases = append(cases,
			wrongSubnet{"Family", api.Subnet{Family: n, Addr: ones(4)}, api.ErrRange},
			wrongSubnet{"Family", api.Subnet{Family: n, Addr: ones(16)}, api.ErrRange})
	}
	for family, own := range map[int]int{1: 4, 2: 16} {
		for _, size := range []int{0, 1, 3, 4, 5, 15, 16, 17, 100} {
			if size != own {
				cases = append(cases, wrongSubnet{"Addr", api.Subnet{Family: family, Addr: ones(size)}, api.ErrShort})
			}
		}
		for _, n := range []int{math.MinInt, -256, -1, own*8 + 1, 255, 256, 256 + own, 1 << 32, math.MaxInt} {
			cases = append(cases,
				wrongSubnet{"Source", api.Subnet{Family: family, Source: n, Addr: ones(own)}, api.ErrRange},
				wrongSubnet{"Scope", api.Subnet{Family: family, Source: 1, Scope: n, Addr: ones(own)}, api.ErrRange})
		}
	}
	return cases
}

type wrongSubnet struct {
	what string
	s    api.Subnet
	want api.Errno
}

func TestSU2EncodeErrors(t *testing.T) {
	for _, c := range wrong() {
		if got, err := subnet.Encode(c.s); plain.Told(err) != c.want || len(got) > 0 {
			t.Errorf("%s: %v: got %d, %v, want %v alone", c.what, c.s, got, err, c.want)
		}
	}
}

// lost tells of bytes of which Decode does not have an error alone.
func lost(t *testing.T, b []byte, want api.Errno) {
	t.Helper()
	if got, err := subnet.Decode(b); plain.Told(err) != want || !alike(got, api.Subnet{}) {
		t.Errorf("%d: got %v, %v, want %v alone", b, got, err, want)
	}
}

func TestSU2DecodeErrors(t *testing.T) {
	for size := range 4 {
		lost(t, []byte{0, 1, 0, 0}[:size], api.ErrShort)
		lost(t, ones(size), api.ErrShort)
	}
	lost(t, nil, api.ErrShort)
	for _, b := range [][]byte{
		{0, 0, 0, 0}, {0, 3, 0, 0}, {0, 3, 9, 0}, {1, 0, 0, 0}, {1, 1, 0, 0}, {1, 2, 0, 0}, {2, 1, 0, 0}, {128, 1, 0, 0}, {255, 255, 0, 0},
		{0, 1, 33, 0, 1, 2, 3, 4, 0}, {0, 1, 0, 33}, {0, 1, 255, 0}, {0, 1, 0, 255}, {0, 1, 128, 128},
		{0, 2, 129, 0}, {0, 2, 0, 129}, {0, 2, 255, 255}, append([]byte{0, 2, 129, 0}, ones(17)...),
		{0, 3, 1, 0, 255, 255}, {0, 1, 1, 33, 255}, {0, 1, 1, 33, 128, 0}, {0, 2, 0, 129, 0},
	} {
		lost(t, b, api.ErrRange)
	}
	for _, b := range [][]byte{
		{0, 1, 0, 0, 0}, {0, 1, 1, 0}, {0, 1, 1, 0, 128, 0}, {0, 1, 8, 0}, {0, 1, 8, 0, 1, 0}, {0, 1, 9, 0, 1}, {0, 1, 9, 0, 1, 0, 0},
		{0, 1, 9, 0, 10, 255}, {0, 1, 9, 0, 10, 64}, {0, 1, 9, 0, 10, 1}, {0, 1, 1, 0, 64}, {0, 1, 7, 0, 1}, {0, 1, 31, 0, 0, 0, 0, 1},
		{0, 1, 32, 0, 1, 2, 3}, {0, 1, 32, 0, 1, 2, 3, 4, 0}, {0, 1, 9, 0, 10, 0, 0, 0},
		{0, 2, 0, 0, 0}, {0, 2, 128, 0}, {0, 2, 33, 0, 1, 2, 3, 4, 64}, append([]byte{0, 2, 127, 0}, ones(16)...),
		append([]byte{0, 2, 128, 0}, ones(15)...), append([]byte{0, 2, 128, 0}, ones(17)...),
	} {
		lost(t, b, api.ErrSyntax)
	}
	lost(t, []byte{0, 1, 9, 0, 10, 128}[:5], api.ErrSyntax)
}

// TestSU2EachNumber goes through all that Source and Scope may be in bytes,
// and through how many stand behind.
func TestSU2EachNumber(t *testing.T) {
	for family := range 5 {
		most := map[int]int{1: 32, 2: 128}[family]
		for source := range 256 {
			for _, scope := range []int{0, 1, 31, 32, 33, 127, 128, 129, 255} {
				for size := range 19 {
					b := append([]byte{0, byte(family), byte(source), byte(scope)}, make([]byte, size)...)
					switch {
					case most == 0 || source > most || scope > most:
						lost(t, b, api.ErrRange)
					case size*8 < source || (size-1)*8 >= source:
						lost(t, b, api.ErrSyntax)
					default:
						want := api.Subnet{Family: family, Source: source, Scope: scope, Addr: make([]byte, most/8)}
						if got, err := subnet.Decode(b); err != nil || !alike(got, want) {
							t.Fatalf("%d: got %v, %v, want %v", b, got, err, want)
						}
					}
				}
			}
		}
	}
}

// TestSU2IsDecoded holds Encode, Decode, Mask and In against each other.
func TestSU2IsDecoded(t *testing.T) {
	below := numbers(11)
	for range 50000 {
		family := 1 + below(2)
		size := []int{4, 16}[family-1]
		s := api.Subnet{Family: family, Source: below(size*8 + 1), Scope: below(size*8 + 1), Addr: fill(below, size)}
		b, err := subnet.Encode(s)
		if err != nil {
			t.Fatalf("%v: %v", s, err)
		}
		want := s
		want.Addr, err = subnet.Mask(s.Addr, s.Source)
		if err != nil {
			t.Fatalf("%v: %v", s, err)
		}
		got, err := subnet.Decode(b)
		if err != nil || !alike(got, want) {
			t.Fatalf("%v: decoded %v, %v", s, got, err)
		}
		if !subnet.In(s.Addr, got) || !subnet.In(got.Addr, s) {
			t.Fatalf("%v and %v are not in each other", s, got)
		}
	}
}

// TestSU2OfManyBytes decodes bytes of few values: what is a subnet is encoded
// as just these.
func TestSU2OfManyBytes(t *testing.T) {
	below := numbers(5)
	right := 0
	for range 300000 {
		b := append([]byte{0, byte(below(4)), byte(below(40)), byte(below(40))}, make([]byte, below(6))...)
		for i := range b[4:] {
			b[4+i] = []byte{0, 0, 128, 192, 255, 1}[below(6)]
		}
		s, err := subnet.Decode(b)
		if err != nil {
			if !alike(s, api.Subnet{}) {
				t.Fatalf("%d: got %v with %v", b, s, err)
			}
			continue
		}
		right++
		if back, err := subnet.Encode(s); err != nil || !bytes.Equal(back, b) {
			t.Fatalf("%d: encoded as %d, %v", b, back, err)
		}
	}
	if right < 10000 {
		t.Errorf("only %d are subnets", right)
	}
}

func TestSU2IsFresh(t *testing.T) {
	room := []byte{10, 255, 3, 4, 99}
	sent, err := subnet.Encode(api.Subnet{Family: 1, Source: 32, Addr: room[:4]})
	if err != nil {
		t.Fatal(err)
	}
	clear(sent[:cap(sent)])
	if !bytes.Equal(room, []byte{10, 255, 3, 4, 99}) {
		t.Errorf("Encode shares memory with what it was given: %d", room)
	}
	given := []byte{0, 1, 32, 0, 10, 255, 3, 4, 99, 99}
	one, err := subnet.Decode(given[:8])
	if err != nil {
		t.Fatal(err)
	}
	two, _ := subnet.Decode(given[:8])
	clear(one.Addr[:cap(one.Addr)])
	if !bytes.Equal(given, []byte{0, 1, 32, 0, 10, 255, 3, 4, 99, 99}) {
		t.Errorf("Decode shares memory with what it was given: %d", given)
	}
	clear(given)
	if !bytes.Equal(two.Addr, []byte{10, 255, 3, 4}) {
		t.Errorf("Decode keeps what it was given, or what it gave: %v", two)
	}
}
