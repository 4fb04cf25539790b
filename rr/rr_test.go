package rr_test

import (
	"bytes"
	"math"
	"slices"
	"strings"
	"testing"

	"pointsman/api"
	"pointsman/plain"
	"pointsman/rr"
	"pointsman/wire"
)

// long makes a label of so many bytes.
func long(size int) string { return strings.Repeat("x", size) }

// some makes so many bytes of Data, not all of them the same.
func some(size int) []byte {
	data := make([]byte, size)
	for i := range data {
		data[i] = byte(i*7 + i/256)
	}
	return data
}

// room makes so many bytes of which none begins a name.
func room(size int) []byte { return bytes.Repeat([]byte{100}, size) }

// join makes a message of its parts.
func join(parts ...[]byte) []byte { return bytes.Join(parts, nil) }

// alike tells if two records are the same.
func alike(a, b api.Record) bool {
	return slices.Equal(a.Name, b.Name) && a.Type == b.Type && a.Class == b.Class &&
		a.TTL == b.TTL && bytes.Equal(a.Data, b.Data)
}

// none tells if a record has nothing in it.
func none(r api.Record) bool { return alike(r, api.Record{}) }

// sent has records whose names are the first of their message, with their
// bytes as the chapter has them.
var sent = []struct {
	what string
	r    api.Record
	want []byte
}{
	{"nothing", api.Record{}, make([]byte, 11)},
	{"ordinary", api.Record{Name: []string{"a"}, Type: 1, Class: 1, TTL: 258, Data: []byte{9}},
		[]byte{1, 97, 0, 0, 1, 0, 1, 0, 0, 1, 2, 0, 1, 9}},
	{"each byte its own", api.Record{Name: []string{"aB", "c"}, Type: 258, Class: 772, TTL: 84281096, Data: []byte{9, 10, 11}},
		[]byte{2, 97, 66, 1, 99, 0, 1, 2, 3, 4, 5, 6, 7, 8, 0, 3, 9, 10, 11}},
	{"Type", api.Record{Type: 65535}, []byte{0, 255, 255, 0, 0, 0, 0, 0, 0, 0, 0}},
	{"Class", api.Record{Class: 65535}, []byte{0, 0, 0, 255, 255, 0, 0, 0, 0, 0, 0}},
	{"TTL", api.Record{TTL: 1<<32 - 1}, []byte{0, 0, 0, 0, 0, 255, 255, 255, 255, 0, 0}},
	{"TTL's highest bit", api.Record{TTL: 1 << 31}, []byte{0, 0, 0, 0, 0, 128, 0, 0, 0, 0, 0}},
	{"Type 41", api.Record{Type: 41, Class: 4096, TTL: 32768, Data: []byte{0, 10, 0, 0}},
		[]byte{0, 0, 41, 16, 0, 0, 0, 128, 0, 0, 4, 0, 10, 0, 0}},
	{"Data that looks like names", api.Record{Name: []string{"a"}, Type: 5, Data: []byte{1, 97, 0, 192, 0}},
		[]byte{1, 97, 0, 0, 5, 0, 0, 0, 0, 0, 0, 0, 5, 1, 97, 0, 192, 0}},
	{"255 bytes", api.Record{Data: some(255)}, join(make([]byte, 9), []byte{0, 255}, some(255))},
	{"256 bytes", api.Record{Data: some(256)}, join(make([]byte, 9), []byte{1, 0}, some(256))},
	{"65534 bytes", api.Record{Data: some(65534)}, join(make([]byte, 9), []byte{255, 254}, some(65534))},
	{"65535 bytes", api.Record{Data: some(65535)}, join(make([]byte, 9), []byte{255, 255}, some(65535))},
}

// TestRR1Read reads each record at the beginning of a message, within it, and
// far on.
func TestRR1Read(t *testing.T) {
	for _, c := range sent {
		for _, ahead := range []int{0, 12, 16384, 70000} {
			for _, more := range []int{0, 1, 20} {
				msg := join(room(ahead), c.want, room(more))
				end := ahead + len(c.want)
				got, next, err := rr.Read(msg, ahead)
				if err != nil || !alike(got, c.r) || next != end {
					t.Errorf("%s at %d: Read gives %v, %d, %v, want %v, %d", c.what, ahead, got, next, err, c.r, end)
				}
				ttl, next, err := rr.Skip(msg, ahead)
				if want := end - len(c.r.Data) - 6; err != nil || ttl != want || next != end {
					t.Errorf("%s at %d: Skip gives %d, %d, %v, want %d, %d", c.what, ahead, ttl, next, err, want, end)
				}
			}
		}
	}
}

// TestRR1ReadPointer reads records whose names end with a pointer: the TTL
// stands behind that, not behind where it leads.
func TestRR1ReadPointer(t *testing.T) {
	fields := []byte{0, 1, 0, 2, 0, 0, 0, 3, 0, 2, 8, 9}
	names := []byte{7, 1, 97, 3, 99, 111, 109, 0, 192, 3} // a.com at 1, com at 3 and by a pointer at 8
	cases := []struct {
		what string
		name []byte
		want []string
	}{
		{"pointer alone", []byte{192, 1}, []string{"a", "com"}},
		{"label and pointer", []byte{2, 98, 66, 192, 3}, []string{"bB", "com"}},
		{"pointer to a pointer", []byte{192, 8}, []string{"com"}},
		{"pointer to an end", []byte{192, 7}, nil},
	}
	for _, c := range cases {
		msg := join(names, c.name, fields, room(3))
		want := api.Record{Name: c.want, Type: 1, Class: 2, TTL: 3, Data: []byte{8, 9}}
		end := len(msg) - 3
		if got, next, err := rr.Read(msg, 10); err != nil || !alike(got, want) || next != end {
			t.Errorf("%s: Read gives %v, %d, %v, want %v, %d", c.what, got, next, err, want, end)
		}
		if ttl, next, err := rr.Skip(msg, 10); err != nil || ttl != 10+len(c.name)+4 || next != end {
			t.Errorf("%s: Skip gives %d, %d, %v", c.what, ttl, next, err)
		}
	}
}

// refused tells of a place at which Read or Skip does not have an error alone.
func refused(t *testing.T, what string, msg []byte, at int, want api.Errno) {
	t.Helper()
	if got, next, err := rr.Read(msg, at); plain.Told(err) != want || !none(got) || next != 0 {
		t.Errorf("%s: Read gives %v, %d, %v, want %v alone", what, got, next, err, want)
	}
	if ttl, next, err := rr.Skip(msg, at); plain.Told(err) != want || ttl != 0 || next != 0 {
		t.Errorf("%s: Skip gives %d, %d, %v, want %v alone", what, ttl, next, err, want)
	}
}

func TestRR1Errors(t *testing.T) {
	whole := make([]byte, 11)
	most := slices.Repeat([]byte{1, 97}, 128)
	cases := []struct {
		what string
		msg  []byte
		at   int
		want api.Errno
	}{
		{"below 0", whole, -1, api.ErrRange},
		{"far below 0", nil, math.MinInt, api.ErrRange},
		{"no byte", nil, 0, api.ErrShort},
		{"behind the last byte", whole, 11, api.ErrShort},
		{"far behind the last byte", whole, math.MaxInt, api.ErrShort},
		{"length of a label that is none", join([]byte{64}, room(100)), 0, api.ErrLabel},
		{"the same, and too few bytes", []byte{64}, 0, api.ErrLabel},
		{"pointer to itself", join([]byte{192, 0}, whole), 0, api.ErrPointer},
		{"the same, and too few bytes", []byte{192, 0}, 0, api.ErrPointer},
		{"name too long", join(most, whole), 0, api.ErrLong},
		{"the same, and too few bytes", most, 0, api.ErrLong},
		{"name cut", []byte{3, 97}, 0, api.ErrShort},
		{"Data of one that is not there", []byte{0, 0, 0, 0, 0, 0, 0, 0, 0, 0, 1}, 0, api.ErrShort},
		{"Data of 256 with 255", join(make([]byte, 9), []byte{1, 0}, some(255)), 0, api.ErrShort},
		{"Data of 65535 with 65534", join(make([]byte, 9), []byte{255, 255}, some(65534)), 0, api.ErrShort},
		{"Data of 65535 without any", join(make([]byte, 9), []byte{255, 255}), 0, api.ErrShort},
	}
	for _, c := range cases {
		refused(t, c.what, c.msg, c.at, c.want)
	}
}

// TestRR1ReadCut cuts a record behind each of its bytes; what is cut off
// stands in memory still, behind the message's length.
func TestRR1ReadCut(t *testing.T) {
	for _, c := range sent[:10] {
		for size := range c.want {
			refused(t, c.what, c.want[:size], 0, api.ErrShort)
		}
	}
	msg := []byte{3, 99, 111, 109, 0, 1, 97, 192, 0, 0, 1, 0, 1, 0, 0, 0, 9, 0, 2, 1, 2}
	for size := range len(msg) {
		refused(t, "with a pointer", msg[:size], 5, api.ErrShort)
	}
}

// reckon reads a record by sums, and tells the places of its TTL and behind it.
func reckon(msg []byte, at int) (r api.Record, ttl, end int, err error) {
	n, next, err := wire.Read(msg, at)
	if err != nil {
		return api.Record{}, 0, 0, err
	}
	rest := msg[next:]
	if len(rest) < 10 {
		return api.Record{}, 0, 0, api.ErrShort
	}
	pair := func(i int) int { return int(rest[i])*256 + int(rest[i+1]) }
	size := pair(8)
	if len(rest) < 10+size {
		return api.Record{}, 0, 0, api.ErrShort
	}
	r = api.Record{Name: n, Type: pair(0), Class: pair(2), TTL: pair(4)*65536 + pair(6), Data: rest[10 : 10+size]}
	return r, next + 4, next + 10 + size, nil
}

// TestRR1OfManyMessages reads at all places of messages of few kinds of bytes,
// so that names, pointers and lengths come about wherever they can.
func TestRR1OfManyMessages(t *testing.T) {
	kinds := []byte{0, 0, 0, 1, 2, 3, 64, 97, 192, 192, 255}
	read, seed := 0, uint32(1)
	for range 20000 {
		msg := make([]byte, 40)
		for i := range msg {
			seed = seed*1664525 + 1013904223
			msg[i] = kinds[seed>>16%uint32(len(kinds))]
		}
		for at := -1; at <= len(msg); at++ {
			want, place, end, wrong := reckon(msg, at)
			got, next, err := rr.Read(msg, at)
			if plain.Told(err) != plain.Told(wrong) || !alike(got, want) || next != end {
				t.Fatalf("Read(%d, %d) gives %v, %d, %v, want %v, %d, %v", msg, at, got, next, err, want, end, wrong)
			}
			ttl, next, err := rr.Skip(msg, at)
			if plain.Told(err) != plain.Told(wrong) || ttl != place || next != end {
				t.Fatalf("Skip(%d, %d) gives %d, %d, %v, want %d, %d, %v", msg, at, ttl, next, err, place, end, wrong)
			}
			if err == nil {
				read++
			}
		}
	}
	if read < 10000 {
		t.Errorf("only %d records were read", read)
	}
}

func TestRR1IsFresh(t *testing.T) {
	msg := []byte{1, 97, 0, 0, 1, 0, 1, 0, 0, 1, 2, 0, 2, 8, 9, 77}
	was := bytes.Clone(msg)
	one, _, err := rr.Read(msg, 0)
	two, _, _ := rr.Read(msg, 0)
	rr.Skip(msg, 0)
	if err != nil {
		t.Fatal(err)
	}
	clear(one.Data[:cap(one.Data)])
	clear(one.Name[:cap(one.Name)])
	if !bytes.Equal(msg, was) {
		t.Errorf("Read shares memory with what it was given: %d", msg)
	}
	clear(msg)
	want := api.Record{Name: []string{"a"}, Type: 1, Class: 1, TTL: 258, Data: []byte{8, 9}}
	if !alike(two, want) {
		t.Errorf("Read keeps what it was given, or what it gave: %v", two)
	}
}
