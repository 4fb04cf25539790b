package wire_test

import (
	"bytes"
	"slices"
	"testing"

	"pointsman/api"
	"pointsman/name"
	"pointsman/plain"
	"pointsman/wire"
)

func TestWI1Write(t *testing.T) {
	cases := []struct {
		what string
		msg  []byte
		n    []string
		want []byte
	}{
		{"root", nil, nil, []byte{0}},
		{"root, empty", []byte{}, []string{}, []byte{0}},
		{"root behind bytes", []byte{7, 0}, nil, []byte{7, 0, 0}},
		{"ordinary", nil, []string{"a", "com"}, []byte{1, 97, 3, 99, 111, 109, 0}},
		{"letters as they are", nil, []string{"aB"}, []byte{2, 97, 66, 0}},
		{"any bytes", []byte{255}, []string{"\x00\xff", "."}, []byte{255, 2, 0, 255, 1, 46, 0}},
		{"no pointer", join(sent("a"), end), []string{"a"}, join(sent("a"), end, sent("a"), end)},
		{"label of 63", nil, []string{long(63)}, join([]byte{63}, []byte(long(63)), end)},
		{"name of 255", nil, ones(127), join(bytes.Repeat([]byte{1, 97}, 127), end)},
		{"far on", room(70000), []string{"a"}, join(room(70000), sent("a"), end)},
	}
	for _, c := range cases {
		got, err := wire.Write(c.msg, c.n)
		if err != nil || !bytes.Equal(got, c.want) {
			t.Errorf("%s: got %d, %v, want %d", c.what, got, err, c.want)
		}
		n, next, err := wire.Read(c.want, len(c.msg))
		if err != nil || !slices.Equal(n, c.n) || next != len(c.want) {
			t.Errorf("%s: read as %q, %d, %v", c.what, n, next, err)
		}
	}
}

func TestWI3Errors(t *testing.T) {
	cases := []struct {
		what string
		n    []string
		want api.Errno
	}{
		{"empty label", []string{"a", ""}, api.ErrLabel},
		{"label of 64", []string{long(64), "com"}, api.ErrLabel},
		{"label of 256", []string{long(256)}, api.ErrLabel},
		{"name of 256", []string{long(63), long(63), long(63), long(62)}, api.ErrLong},
		{"name of 257, and an empty label", append(ones(128), ""), api.ErrLabel},
	}
	msg := join(sent("com"), end)
	for _, c := range cases {
		if got, err := wire.Write(msg, c.n); plain.Told(err) != c.want || len(got) != 0 {
			t.Errorf("Write, %s: got %d, %v, want %v", c.what, got, err, c.want)
		}
		got, starts, err := wire.Pack(msg, []int{0}, c.n)
		if plain.Told(err) != c.want || len(got) != 0 || len(starts) != 0 {
			t.Errorf("Pack, %s: got %d, %d, %v, want %v", c.what, got, starts, err, c.want)
		}
	}
}

func TestWI3Pack(t *testing.T) {
	// b.a.com at 0, a.com at 2, com at 4, its end at 8, com again at 9,
	// c.com at 14 by a pointer at 16, and a length that is none at 18.
	msg := join(sent("b", "a", "com"), end, sent("com"), end, sent("c"), back(4), []byte{64})
	cases := []struct {
		what   string
		starts []int
		n      []string
		want   []byte // behind the message
		told   []int
	}{
		{"no starts", nil, []string{"a", "com"}, join(sent("a", "com"), end), []int{19, 21}},
		{"root", []int{0, 8}, nil, end, []int{0, 8}},
		{"root without starts", nil, []string{}, end, nil},
		{"all of it", []int{0, 2, 4}, []string{"a", "com"}, back(2), []int{0, 2, 4}},
		{"some of it", []int{0, 2, 4}, []string{"d", "com"}, join(sent("d"), back(4)), []int{0, 2, 4, 19}},
		{"most of it", []int{4, 2, 0, 9}, []string{"d", "a", "com"}, join(sent("d"), back(2)), []int{4, 2, 0, 9, 19}},
		{"the first of two that have as many", []int{9, 4}, []string{"d", "com"}, join(sent("d"), back(9)), []int{9, 4, 19}},
		{"the first of two, turned", []int{4, 9}, []string{"d", "com"}, join(sent("d"), back(4)), []int{4, 9, 19}},
		{"one that has more stands last", []int{9, 4, 2}, []string{"d", "a", "com"}, join(sent("d"), back(2)), []int{9, 4, 2, 19}},
		{"none of it", []int{0, 2}, []string{"d", "com"}, join(sent("d", "com"), end), []int{0, 2, 19, 21}},
		{"more stands there", []int{0}, []string{"a", "com"}, join(sent("a", "com"), end), []int{0, 19, 21}},
		{"its first labels, not its last ones", []int{4}, []string{"com", "a"}, join(sent("com", "a"), end), []int{4, 19, 23}},
		{"great letters", []int{4, 2}, []string{"a", "Com"}, join(sent("a", "Com"), end), []int{4, 2, 19, 21}},
		{"great letters further ahead", []int{4, 2}, []string{"A", "com"}, join(sent("A"), back(4)), []int{4, 2, 19}},
		{"no pointer for the end alone", []int{8}, []string{"d"}, join(sent("d"), end), []int{8, 19}},
		{"one that is read by a pointer", []int{14}, []string{"d", "c", "com"}, join(sent("d"), back(14)), []int{14, 19}},
		{"one that is a pointer", []int{16}, []string{"d", "com"}, join(sent("d"), back(16)), []int{16, 19}},
		{"one that nobody wrote as a name", []int{13, 8}, []string{"d"}, join(sent("d"), end), []int{13, 8, 19}},
		{"the same start twice", []int{4, 4}, []string{"com"}, back(4), []int{4, 4}},
		{"starts with an error", []int{-1, 18, 4, 19, 1 << 62, -1 << 63, 6}, []string{"d", "com"},
			join(sent("d"), back(4)), []int{4, 19}},
		{"starts with an error alone", []int{18, -4}, []string{"com"}, join(sent("com"), end), []int{19}},
		{"start at the name itself", []int{19}, []string{"com"}, join(sent("com"), end), []int{19}},
	}
	for _, c := range cases {
		got, told, err := wire.Pack(msg, c.starts, c.n)
		if err != nil || !bytes.Equal(got, join(msg, c.want)) || !slices.Equal(told, c.told) {
			t.Errorf("%s: got %d, %d, %v, want %d, %d", c.what, got, told, err, join(msg, c.want), c.told)
		}
		n, next, err := wire.Read(got, len(msg))
		if err != nil || !slices.Equal(n, c.n) || next != len(got) {
			t.Errorf("%s: read as %q, %d, %v", c.what, n, next, err)
		}
	}
}

// TestWI3PackAtTheLastPlace has names on both sides of the last place that a
// pointer can lead to.
func TestWI3PackAtTheLastPlace(t *testing.T) {
	for _, c := range []struct {
		at   int
		n    []string
		told []int
	}{
		{16382, []string{"q", "com"}, []int{16382}},
		{16383, []string{"q", "com"}, []int{16383}},
		{16384, []string{"q", "com"}, nil},
		{16381, []string{"q", "com"}, []int{16381, 16383}},
		{16380, []string{"q", "com", "x"}, []int{16380, 16382}},
		{70000, []string{"q", "com"}, nil},
	} {
		got, told, err := wire.Pack(room(c.at), nil, c.n)
		if err != nil || !bytes.Equal(got, join(room(c.at), sent(c.n...), end)) || !slices.Equal(told, c.told) {
			t.Errorf("at %d: got %d, %v, want %d", c.at, told, err, c.told)
		}
	}
	for _, c := range []struct {
		at   int
		want []byte
	}{
		{255, back(255)},
		{256, back(256)},
		{16383, back(16383)},
		{16384, join(sent("q"), end)},
		{16640, join(sent("q"), end)},
		{65536, join(sent("q"), end)},
	} {
		msg := join(room(c.at), sent("q"), end)
		got, told, err := wire.Pack(msg, []int{c.at}, []string{"q"})
		// The start is told as it was, also where no pointer leads to it.
		if err != nil || !bytes.Equal(got, join(msg, c.want)) || !slices.Equal(told, []int{c.at}) {
			t.Errorf("start %d: got %d, %d, %v", c.at, got[len(msg):], told, err)
		}
	}
	msg := join(room(16382), sent("q"), end, sent("q"), end)
	got, _, err := wire.Pack(msg, []int{16385, 16382}, []string{"q"})
	if err != nil || !bytes.Equal(got, join(msg, back(16382))) {
		t.Errorf("the first start is too far on: got %d, %v", got[len(msg):], err)
	}
}

// packed packs a name the long way: for ever fewer of its last labels each
// start is asked if just these are read there.
func packed(msg []byte, starts []int, n []string) ([]byte, []int) {
	var told []int
	for _, start := range starts {
		if _, _, err := wire.Read(msg, start); err == nil {
			told = append(told, start)
		}
	}
	for i := range n {
		for _, start := range told {
			there, _, _ := wire.Read(msg, start)
			if start <= 16383 && slices.Equal(there, n[i:]) {
				return join(msg, sent(n[:i]...), back(start)), append(told, places(msg, n[:i])...)
			}
		}
	}
	return join(msg, sent(n...), end), append(told, places(msg, n)...)
}

// places has those of labels that are written behind a message.
func places(msg []byte, labels []string) []int {
	var at []int
	for i := range labels {
		if place := len(msg) + len(sent(labels[:i]...)); place <= 16383 {
			at = append(at, place)
		}
	}
	return at
}

func TestWI3PackOfAllSmallNames(t *testing.T) {
	names := [][]string{nil}
	for at := 0; len(names) < 1+3+9+27; at++ {
		for _, label := range []string{"a", "A", "b"} {
			names = append(names, append([]string{label}, names[at]...))
		}
	}
	messages := [][]byte{nil, {0}, {1, 97, 0}, {1, 97, 1, 98, 0}, {1, 98, 0, 1, 97, 192, 0, 1, 97, 192, 3},
		{1, 65, 0, 1, 97, 0, 1, 97, 1, 98, 0, 192, 3}, {1, 97, 0, 64, 1, 97, 192, 9, 1, 97}}
	for _, msg := range messages {
		for a := -1; a <= len(msg); a++ {
			for b := -1; b <= len(msg); b++ {
				for c := -1; c <= len(msg); c++ {
					for _, n := range names {
						starts := []int{a, b, c}
						got, told, err := wire.Pack(msg, starts, n)
						want, places := packed(msg, starts, n)
						if err != nil || !bytes.Equal(got, want) || !slices.Equal(told, places) {
							t.Fatalf("Pack(%d, %d, %q): got %d, %d, %v, want %d, %d",
								msg, starts, n, got, told, err, want, places)
						}
					}
				}
			}
		}
	}
}

// TestWI3PackedNamesAreRead writes many names behind each other, each with the
// starts of those ahead of it, and reads all of them again.
func TestWI3PackedNamesAreRead(t *testing.T) {
	var msg []byte
	var starts, at []int
	var names [][]string
	plainly := 0
	for i := range 3000 {
		n := []string{string(rune('a' + i%7)), string(rune('A' + i%5)), long(1 + i%63), string(rune('a' + i/400))}[i%4:]
		at, names = append(at, len(msg)), append(names, n)
		var err error
		if msg, starts, err = wire.Pack(msg, starts, n); err != nil {
			t.Fatalf("Pack of %q: %v", n, err)
		}
		plainly += len(sent(n...)) + 1
	}
	for i, n := range names {
		got, _, err := wire.Read(msg, at[i])
		if err != nil || !slices.Equal(got, n) {
			t.Fatalf("name %d: read as %q, %v, want %q", i, got, err, n)
		}
	}
	if len(msg)*3 > plainly*2 {
		t.Errorf("%d bytes were packed into %d", plainly, len(msg))
	}
	if len(starts) == 0 || slices.Max(starts) > 16383 || !slices.IsSorted(starts) {
		t.Errorf("starts: got %d", starts)
	}
}

func TestWI3IsFresh(t *testing.T) {
	whole := join(sent("com"), end, []byte("behind it"))
	msg := whole[:5]
	room := []int{0, 77, 78, 79}
	starts := room[:1]
	labels := []string{"a", "com"}
	was := bytes.Clone(whole)
	first, err := wire.Write(msg, labels)
	second, told, wrong := wire.Pack(msg, starts, labels)
	if err != nil || wrong != nil {
		t.Fatal(err, wrong)
	}
	clear(first[:cap(first)])
	clear(second[:cap(second)])
	clear(told[:cap(told)])
	if !bytes.Equal(whole, was) || !slices.Equal(room, []int{0, 77, 78, 79}) || !slices.Equal(labels, []string{"a", "com"}) {
		t.Errorf("what was handed in is changed: %d, %d, %q", whole, room, labels)
	}
	third, told, _ := wire.Pack(msg, starts, labels)
	clear(whole)
	clear(room)
	clear(labels)
	if !bytes.Equal(third, join(was[:5], sent("a"), back(0))) || !slices.Equal(told, []int{0, 5}) {
		t.Errorf("what was handed in is kept: %d, %d", third, told)
	}
}

// TestWI3OnlyNamesOfChapterOne: what Check passes is written, and is read again.
func TestWI3OnlyNamesOfChapterOne(t *testing.T) {
	for size := range 70 {
		for last := range 70 {
			n := []string{long(63), long(size), long(63), long(last)}
			msg, err := wire.Write(nil, n)
			if plain.Told(err) != plain.Told(name.Check(n)) {
				t.Fatalf("labels of %d and %d: got %v, want %v", size, last, err, name.Check(n))
			}
			if err != nil {
				continue
			}
			if got, next, err := wire.Read(msg, 0); err != nil || !slices.Equal(got, n) || next != len(msg) {
				t.Fatalf("labels of %d and %d: read as %q, %d, %v", size, last, got, next, err)
			}
		}
	}
}
