package wire_test

import (
	"bytes"
	"slices"
	"strings"
	"testing"

	"pointsman/api"
	"pointsman/plain"
	"pointsman/wire"
)

// long makes a label of so many bytes.
func long(size int) string { return strings.Repeat("x", size) }

// ones makes a name of so many labels, each of one byte.
func ones(count int) []string { return slices.Repeat([]string{"a"}, count) }

// sent makes the labels of a name as they are sent, without what ends it.
func sent(labels ...string) []byte {
	var msg []byte
	for _, label := range labels {
		msg = append(msg, byte(len(label)))
		msg = append(msg, label...)
	}
	return msg
}

// join makes a message of its parts.
func join(parts ...[]byte) []byte { return bytes.Join(parts, nil) }

// back makes a pointer to a place.
func back(place int) []byte { return []byte{byte(192 + place/256), byte(place % 256)} }

// room makes so many bytes of which none begins a name.
func room(size int) []byte { return bytes.Repeat([]byte{100}, size) }

var end = []byte{0}

func TestWI2Read(t *testing.T) {
	com := join([]byte{7}, sent("a", "com"), end) // a at 1, com at 3, its end at 7
	cases := []struct {
		what string
		msg  []byte
		at   int
		want []string
		next int
	}{
		{"root", end, 0, nil, 1},
		{"root, and more", []byte{0, 9, 9}, 0, nil, 1},
		{"root within", []byte{9, 0, 9}, 1, nil, 2},
		{"one label", join(sent("a"), end), 0, []string{"a"}, 3},
		{"ordinary", com, 1, []string{"a", "com"}, 8},
		{"its last label", com, 3, []string{"com"}, 8},
		{"its end", com, 7, nil, 8},
		{"letters as they are", join(sent("aB", "C"), end), 0, []string{"aB", "C"}, 6},
		{"any bytes", join(sent("\x00\xc0\x40", "."), end), 0, []string{"\x00\xc0\x40", "."}, 7},
		{"label of 63", join(sent(long(63)), end), 0, []string{long(63)}, 65},
		{"pointer alone", join(com, back(1)), 8, []string{"a", "com"}, 10},
		{"pointer behind a label", join(com, sent("b"), back(3)), 8, []string{"b", "com"}, 12},
		{"pointer to an end", join(com, sent("b"), back(7)), 8, []string{"b"}, 12},
		{"bytes behind a pointer", join(com, back(3), sent("zz"), end), 8, []string{"com"}, 10},
		{"pointer to a pointer", join(com, back(3), back(8)), 10, []string{"com"}, 12},
		{"pointer, label, pointer", join(com, sent("b"), back(3), sent("c"), back(8)), 12,
			[]string{"c", "b", "com"}, 16},
		{"pointer into a label", join(sent("\x01q\x00"), end, back(1)), 5, []string{"q"}, 7},
		{"pointer to the place just ahead", join(end, back(0)), 1, nil, 3},
		{"name of 255", join(sent(long(63), long(63), long(63), long(61)), end), 0,
			[]string{long(63), long(63), long(63), long(61)}, 255},
		{"name of 255 in 127 labels", join(sent(ones(127)...), end), 0, ones(127), 255},
		{"name of 255 with a pointer", join(sent(long(63), long(63)), end, sent(long(63), long(61)), back(0)), 129,
			[]string{long(63), long(61), long(63), long(63)}, 257},
		{"place 256 and on", join(room(511), sent("q"), end, back(511)), 514, []string{"q"}, 516},
		{"last place of a pointer", join(room(16383), end, sent("q"), back(16383)), 16384, []string{"q"}, 16388},
		{"place that no pointer has", join(room(70000), sent("q"), end), 70000, []string{"q"}, 70003},
	}
	for _, c := range cases {
		got, next, err := wire.Read(c.msg, c.at)
		if err != nil || !slices.Equal(got, c.want) || next != c.next {
			t.Errorf("%s: got %q, %d, %v, want %q, %d", c.what, got, next, err, c.want, c.next)
		}
	}
}

func TestWI2ReadErrors(t *testing.T) {
	const least, most = -1 << 63, 1<<63 - 1
	full := sent(long(63), long(63), long(63), long(61)) // 254 bytes: with a 0 it is a name
	cases := []struct {
		what string
		msg  []byte
		at   int
		want api.Errno
	}{
		{"below 0", end, -1, api.ErrRange},
		{"far below 0", nil, least, api.ErrRange},
		{"no byte", nil, 0, api.ErrShort},
		{"behind the last byte", end, 1, api.ErrShort},
		{"far behind the last byte", end, most, api.ErrShort},
		{"length alone", []byte{1}, 0, api.ErrShort},
		{"label cut", []byte{3, 97, 98}, 0, api.ErrShort},
		{"label of 63 cut", sent(long(63))[:63], 0, api.ErrShort},
		{"no end", sent("a", "com"), 0, api.ErrShort},
		{"pointer cut", join(end, back(0)[:1]), 1, api.ErrShort},
		{"pointer cut that can lead nowhere", []byte{255}, 0, api.ErrShort},
		{"length 64", []byte{64}, 0, api.ErrLabel},
		{"length 64 with its bytes", join([]byte{64}, room(64), end), 0, api.ErrLabel},
		{"length 127", []byte{127, 0}, 0, api.ErrLabel},
		{"length 128", []byte{128, 0}, 0, api.ErrLabel},
		{"length 191", []byte{191, 0}, 0, api.ErrLabel},
		{"wrong length behind a label", join(sent("a"), []byte{64}), 0, api.ErrLabel},
		{"wrong length behind a pointer", join([]byte{64}, back(0)), 1, api.ErrLabel},
		{"pointer to itself", back(0), 0, api.ErrPointer},
		{"pointer to itself, further on", join(end, end, back(2)), 2, api.ErrPointer},
		{"pointer to its second byte", []byte{0, 192, 2, 0}, 1, api.ErrPointer},
		{"pointer on", join(back(2), end), 0, api.ErrPointer},
		{"pointer out of the message", join(end, back(16383)), 1, api.ErrPointer},
		{"pointer to where it began", join(end, sent("a"), back(1)), 1, api.ErrPointer},
		{"pointer to a label of its own", join(end, sent("a", "b"), back(3)), 1, api.ErrPointer},
		{"pointer back to where a pointer led", join(end, sent("a"), back(1), back(1)), 5, api.ErrPointer},
		{"pointer ahead of at, not of where a pointer led", join(end, sent("a"), back(2), back(1)), 5, api.ErrPointer},
		{"two pointers in a ring", join(back(2), back(0)), 2, api.ErrPointer},
		{"name of 256", join(sent(long(63), long(63), long(63), long(62)), end), 0, api.ErrLong},
		{"name of 256 in 127 labels", join(sent(ones(126)...), sent("bb"), end), 0, api.ErrLong},
		{"name of 257", join(full, sent("a"), end), 0, api.ErrLong},
		{"name of 257 with a pointer", join(sent("a"), end, full, back(0)), 3, api.ErrLong},
		{"too long ahead of no byte more", join(full, sent("a")), 0, api.ErrLong},
		{"too long ahead of a wrong length", join(full, sent("a"), []byte{64}), 0, api.ErrLong},
		{"too long ahead of a wrong pointer", join(full, sent("a"), back(0)), 0, api.ErrLong},
		{"label cut ahead of too long", join(full, []byte{1}), 0, api.ErrShort},
		{"wrong length ahead of too long", join(full, []byte{64, 1}), 0, api.ErrLabel},
		{"as long as may be, no byte more", full, 0, api.ErrShort},
		{"many labels", bytes.Repeat([]byte{1, 97}, 100000), 0, api.ErrLong},
	}
	for _, c := range cases {
		got, next, err := wire.Read(c.msg, c.at)
		if plain.Told(err) != c.want || len(got) != 0 || next != 0 {
			t.Errorf("%s: got %q, %d, %v, want %v", c.what, got, next, err, c.want)
		}
	}
}

// ask reads a name the long way: from where it was read on, with all places
// at which it was so far, and how many bytes the name has.
func ask(msg []byte, at int, places []int, size int) ([]string, int, api.Errno) {
	if at >= len(msg) {
		return nil, 0, api.ErrShort
	}
	first := int(msg[at])
	switch {
	case first == 0:
		return nil, at + 1, api.OK
	case first >= 192:
		if at+1 >= len(msg) {
			return nil, 0, api.ErrShort
		}
		to := first%64*256 + int(msg[at+1])
		for _, place := range places {
			if to >= place {
				return nil, 0, api.ErrPointer
			}
		}
		n, _, wrong := ask(msg, to, append(places, to), size)
		if wrong != api.OK {
			return nil, 0, wrong
		}
		return n, at + 2, api.OK
	case first >= 64:
		return nil, 0, api.ErrLabel
	}
	for i := 1; i <= first; i++ {
		if at+i >= len(msg) {
			return nil, 0, api.ErrShort
		}
	}
	if size += first + 1; size+1 > 255 {
		return nil, 0, api.ErrLong
	}
	n, next, wrong := ask(msg, at+1+first, places, size)
	if wrong != api.OK {
		return nil, 0, wrong
	}
	return append([]string{string(msg[at+1 : at+1+first])}, n...), next, api.OK
}

// all tells all messages of so many of these bytes.
func all(of []byte, size int, tell func([]byte)) {
	msg := make([]byte, size)
	var fill func(int)
	fill = func(i int) {
		if i == size {
			tell(msg)
			return
		}
		for _, b := range of {
			msg[i] = b
			fill(i + 1)
		}
	}
	fill(0)
}

func TestWI2ReadOfAllSmallMessages(t *testing.T) {
	seen := map[api.Errno]int{}
	for size := range 7 {
		all([]byte{0, 1, 2, 3, 64, 191, 192, 193}, size, func(msg []byte) {
			for at := range size + 1 {
				n, next, err := wire.Read(msg, at)
				want, behind, wrong := ask(msg, at, []int{at}, 0)
				if !slices.Equal(n, want) || next != behind || plain.Told(err) != wrong {
					t.Fatalf("Read(%d, %d): got %q, %d, %v, want %q, %d, %v", msg, at, n, next, err, want, behind, wrong)
				}
				seen[wrong]++
			}
		})
	}
	for _, told := range []api.Errno{api.OK, api.ErrShort, api.ErrLabel, api.ErrPointer} {
		if seen[told] == 0 {
			t.Errorf("%v was never told", told)
		}
	}
}

func TestWI2ReadOfEachFirstByte(t *testing.T) {
	for first := range 256 {
		msg := join(room(20000), end, []byte{byte(first)}, room(300))
		for at := range 16384 {
			msg[at] = byte(at % 2) // each place is an end, or a label of one byte ahead of one
		}
		n, next, err := wire.Read(msg, 20001)
		want, behind, wrong := ask(msg, 20001, []int{20001}, 0)
		if !slices.Equal(n, want) || next != behind || plain.Told(err) != wrong {
			t.Errorf("first byte %d: got %q, %d, %v, want %q, %d, %v", first, n, next, err, want, behind, wrong)
		}
	}
}

// TestWI2ReadOfEachLength holds the bound of a name against each last label.
func TestWI2ReadOfEachLength(t *testing.T) {
	for ahead := 180; ahead <= 254; ahead++ {
		var labels []string
		for left := ahead; left > 1; left -= 1 + len(labels[len(labels)-1]) {
			labels = append(labels, long(min(63, left-1)))
		}
		for last := 1; last <= 63; last++ {
			msg := join(sent(labels...), sent(long(last)), end)
			_, next, err := wire.Read(msg, 0)
			if len(msg) <= 255 && (err != nil || next != len(msg)) {
				t.Errorf("name of %d: got %d, %v", len(msg), next, err)
			}
			if len(msg) > 255 && plain.Told(err) != api.ErrLong {
				t.Errorf("name of %d: got %v", len(msg), err)
			}
		}
	}
}

func TestWI2ReadOfManyPointers(t *testing.T) {
	msg := []byte{0, 0}
	for len(msg) <= 16384 {
		msg = append(msg, back(len(msg)-2)...)
	}
	n, next, err := wire.Read(msg, len(msg)-2)
	if err != nil || len(n) != 0 || next != len(msg) {
		t.Errorf("got %q, %d, %v", n, next, err)
	}
}

func TestWI2ReadKeepsAndWritesNothing(t *testing.T) {
	whole := join(sent("com"), end, sent("a"), back(0), []byte("behind"))
	msg := whole[:9]
	was := bytes.Clone(whole)
	n, next, err := wire.Read(msg, 5)
	if err != nil || !slices.Equal(n, []string{"a", "com"}) || next != 9 {
		t.Fatalf("got %q, %d, %v", n, next, err)
	}
	if !bytes.Equal(whole, was) {
		t.Errorf("what was handed in is changed: %d", whole)
	}
	clear(whole)
	if !slices.Equal(n, []string{"a", "com"}) {
		t.Errorf("what was handed in is kept: %q", n)
	}
}

// TestWI2ReadsNothingBehind: what lies behind the message's length is none of it.
func TestWI2ReadsNothingBehind(t *testing.T) {
	whole := join(sent("a", "com"), end)
	for size := range len(whole) {
		if n, next, err := wire.Read(whole[:size], 0); plain.Told(err) != api.ErrShort || len(n) != 0 || next != 0 {
			t.Errorf("%d bytes: got %q, %d, %v", size, n, next, err)
		}
	}
}
