package tail_test

import (
	"math"
	"slices"
	"strings"
	"testing"

	"pointsman/api"
	"pointsman/plain"
	"pointsman/tail"
)

// long makes a label of so many bytes.
func long(size int) string { return strings.Repeat("x", size) }

// ones makes so many labels, each of one byte.
func ones(count int) []string { return slices.Repeat([]string{"a"}, count) }

// dotted makes the labels of a text that has a dot between each two.
func dotted(s string) []string {
	if s == "" {
		return nil
	}
	return strings.Split(s, ".")
}

// numbers makes a source of numbers below others, the same each time.
func numbers(seed uint32) func(int) int {
	return func(n int) int {
		seed = seed*1664525 + 1013904223
		return int(seed>>16) % n
	}
}

// answer is what Get tells.
type answer struct {
	val, n int
	has    bool
}

// hold holds what Get tells against what it is to tell.
func hold(t *testing.T, x *tail.Tails, n []string, want answer) {
	t.Helper()
	val, count, has := x.Get(n)
	if got := (answer{val, count, has}); got != want {
		t.Fatalf("Get(%.100q): got %v, want %v", n, got, want)
	}
}

// holdLen holds for how many there are values against how many there are to be.
func holdLen(t *testing.T, x *tail.Tails, want int) {
	t.Helper()
	if got := x.Len(); got != want {
		t.Fatalf("Len: got %d, want %d", got, want)
	}
}

// lay puts a value for what is a name.
func lay(t *testing.T, x *tail.Tails, n []string, val int) {
	t.Helper()
	if err := x.Put(n, val); err != nil {
		t.Fatalf("Put(%.100q, %d): %v", n, val, err)
	}
}

// of makes tails of names, with their places in the list as values.
func of(t *testing.T, names ...[]string) *tail.Tails {
	t.Helper()
	x := tail.New()
	for i, n := range names {
		lay(t, x, n, i)
	}
	return x
}

// small tells a text with small letters, as the document has them.
func small(s string) string {
	b := []byte(s)
	for i, c := range b {
		if at := strings.IndexByte("ABCDEFGHIJKLMNOPQRSTUVWXYZ", c); at >= 0 {
			b[i] = "abcdefghijklmnopqrstuvwxyz"[at]
		}
	}
	return string(b)
}

// list has values for names as the document tells them, one by one.
type list []struct {
	n   []string
	val int
}

func same(a, b []string) bool {
	return slices.EqualFunc(a, b, func(x, y string) bool { return small(x) == small(y) })
}

func (l *list) put(n []string, val int) {
	for i, one := range *l {
		if same(one.n, n) {
			(*l)[i].val = val
			return
		}
	}
	*l = append(*l, struct {
		n   []string
		val int
	}{slices.Clone(n), val})
}

func (l list) get(n []string) answer {
	var best answer
	for _, one := range l {
		more := len(n) - len(one.n)
		if more >= 0 && same(n[more:], one.n) && (!best.has || len(one.n) > best.n) {
			best = answer{one.val, len(one.n), true}
		}
	}
	return best
}

func TestTA1Empty(t *testing.T) {
	x := tail.New()
	holdLen(t, x, 0)
	for _, n := range [][]string{nil, {}, {""}, {"a"}, {"www", "example", "org"}, {long(64)}, ones(200)} {
		hold(t, x, n, answer{})
	}
	holdLen(t, x, 0)
}

func TestTA1Get(t *testing.T) {
	x := tail.New()
	for s, val := range map[string]int{
		"example.org":     1,
		"www.example.org": -2,
		"a.b.c.d.org":     math.MaxInt,
		"d.org":           0,
		"com":             math.MinInt,
		"co.uk":           6,
	} {
		lay(t, x, dotted(s), val)
	}
	holdLen(t, x, 6)
	for s, want := range map[string]answer{
		"":                      {},
		"org":                   {},
		"net":                   {},
		"uk":                    {},
		"co":                    {},
		"com":                   {math.MinInt, 1, true},
		"a.com":                 {math.MinInt, 1, true},
		"com.com":               {math.MinInt, 1, true},
		"com.net":               {},
		"co.uk":                 {6, 2, true},
		"a.co.uk":               {6, 2, true},
		"co.a.uk":               {},
		"example.org":           {1, 2, true},
		"ftp.example.org":       {1, 2, true},
		"badexample.org":        {},
		"example.org.net":       {},
		"example":               {},
		"www.example.org":       {-2, 3, true},
		"a.www.example.org":     {-2, 3, true},
		"a.b.c.www.example.org": {-2, 3, true},
		"awww.example.org":      {1, 2, true},
		"www.a.example.org":     {1, 2, true},
		"d.org":                 {0, 2, true},
		"c.d.org":               {0, 2, true},
		"b.c.d.org":             {0, 2, true},
		"a.b.c.d.org":           {math.MaxInt, 5, true},
		"z.a.b.c.d.org":         {math.MaxInt, 5, true},
		"z.b.c.d.org":           {0, 2, true},
	} {
		hold(t, x, dotted(s), want)
	}
}

// TestTA1Root has a value for the end of all names.
func TestTA1Root(t *testing.T) {
	x := tail.New()
	lay(t, x, nil, 7)
	holdLen(t, x, 1)
	for _, n := range [][]string{nil, {}, {"a"}, {"a", "b"}, {""}, {"a", ""}, {long(64)}, {long(300), "a"}, ones(127), ones(1000)} {
		hold(t, x, n, answer{7, 0, true})
	}
	lay(t, x, []string{}, 8)
	lay(t, x, []string{"a"}, 9)
	holdLen(t, x, 2)
	hold(t, x, nil, answer{8, 0, true})
	hold(t, x, []string{"b"}, answer{8, 0, true})
	hold(t, x, []string{"b", "a"}, answer{9, 1, true})
}

// TestTA1Letters puts each byte and asks for each: but for small letters and
// great ones, none is like another.
func TestTA1Letters(t *testing.T) {
	for a := range 256 {
		one := string([]byte{'x', byte(a)})
		x := of(t, []string{"A", one, "b"})
		for b := range 256 {
			other := string([]byte{'X', byte(b)})
			want := answer{}
			if small(one) == small(other) {
				want = answer{0, 3, true}
			}
			hold(t, x, []string{"a", other, "B"}, want)
		}
	}
}

// TestTA1LettersOfRunes: what is no letter from A to Z is like itself alone.
func TestTA1LettersOfRunes(t *testing.T) {
	x := of(t, []string{"k"}, []string{"é"}, []string{"s"}, []string{"\xff"})
	for _, label := range []string{"\u212a", "É", "\u017f", "\xfe", "\ufffd"} {
		hold(t, x, []string{label}, answer{})
	}
	hold(t, x, []string{"K"}, answer{0, 1, true})
	hold(t, x, []string{"é"}, answer{1, 1, true})
	hold(t, x, []string{"S"}, answer{2, 1, true})
	hold(t, x, []string{"\xff"}, answer{3, 1, true})
}

// TestTA1Instead: what is put for a name stands instead of what was there for
// it, in letters of any size, and of nothing else.
func TestTA1Instead(t *testing.T) {
	x := of(t, dotted("org"), dotted("example.org"), dotted("www.example.org"))
	for i, s := range []string{"example.org", "EXAMPLE.ORG", "eXample.oRg", "Example.org"} {
		lay(t, x, dotted(s), 10-i)
		holdLen(t, x, 3)
		for _, asked := range []string{"example.org", "EXAMPLE.ORG", "a.exAMPLE.org"} {
			hold(t, x, dotted(asked), answer{10 - i, 2, true})
		}
		hold(t, x, dotted("org"), answer{0, 1, true})
		hold(t, x, dotted("www.example.org"), answer{2, 3, true})
	}
}

// TestTA1Labels has names that are of the same bytes, and differ in where their
// labels begin.
func TestTA1Labels(t *testing.T) {
	names := [][]string{
		{"abc"}, {"a", "bc"}, {"ab", "c"}, {"a", "b", "c"}, {"c"}, {"bc"},
		{"a.b.c"}, {"a.b", "c"}, {"a", "b.c"}, {"a\\", "c"},
		{"a\x01b\x01c"}, {"a\x01b", "c"}, {"a", "b\x01c"}, {"\x01c"}, {"\x01", "c"},
		{"\x00"}, {"\x00", "\x00"}, {"\x00\x00"}, {"c\x00"}, {"c\x00", "c"}, {"\x00c"},
	}
	x := of(t, names...)
	holdLen(t, x, len(names))
	for i, n := range names {
		hold(t, x, n, answer{i, len(n), true})
		hold(t, x, append([]string{"z"}, n...), answer{i, len(n), true})
	}
	// Of these alone the last bytes are a name of the list, and no last labels.
	for _, n := range [][]string{{"a\x03abc"}, {"za.b.c"}, {"a\x01c"}, {"z\x00"}, {"z\\", "z\x01\x00"}} {
		hold(t, x, n, answer{})
	}
}

// TestTA1LabelsThatAreNone asks for labels of which some can be in no name:
// what ends behind these is found, and no more.
func TestTA1LabelsThatAreNone(t *testing.T) {
	x := of(t, dotted("com"), dotted("a.com"), dotted("b.a.com"), []string{long(63)}, []string{long(1), "com"})
	for _, none := range []string{"", long(64), long(255), long(256), long(257), long(256 + 63), long(1 << 20)} {
		hold(t, x, []string{none}, answer{})
		hold(t, x, []string{"com", none}, answer{})
		hold(t, x, []string{"com", none, none}, answer{})
		hold(t, x, []string{none, "com"}, answer{0, 1, true})
		hold(t, x, []string{"a", none, "com"}, answer{0, 1, true})
		hold(t, x, []string{"b", none, "a", "com"}, answer{1, 2, true})
		hold(t, x, []string{none, "b", "a", "COM"}, answer{2, 3, true})
		hold(t, x, []string{none, long(63)}, answer{3, 1, true})
	}
	hold(t, x, []string{"com", long(62)}, answer{})
}

// TestTA1Long has the longest names, and asks for longer lists, which have
// them as their ends.
func TestTA1Long(t *testing.T) {
	for _, n := range [][]string{
		ones(127),
		{long(63), long(63), long(63), long(61)},
		append(ones(95), long(63)),
		append([]string{long(63)}, ones(95)...),
	} {
		x := of(t, n, n[1:])
		holdLen(t, x, 2)
		hold(t, x, n, answer{0, len(n), true})
		hold(t, x, n[1:], answer{1, len(n) - 1, true})
		hold(t, x, n[2:], answer{})
		for _, ahead := range [][]string{{"a"}, {"b", "c"}, {""}, {long(1000)}, ones(100000)} {
			hold(t, x, append(slices.Clone(ahead), n...), answer{0, len(n), true})
		}
		hold(t, x, append([]string{"b"}, n[1:]...), answer{1, len(n) - 1, true})
	}
	x := of(t, ones(5))
	hold(t, x, ones(1<<20), answer{0, 5, true})
}

// TestTA1EachLength puts ends of each length of one name, each two in both
// orders.
func TestTA1EachLength(t *testing.T) {
	var whole []string
	below := numbers(3)
	for range 60 {
		whole = append(whole, string([]byte{byte(below(256)), 'a' + byte(below(26))})[below(2):])
	}
	for more := range whole {
		for fewer := more + 1; fewer <= len(whole); fewer++ {
			for _, ends := range [][2]int{{more, fewer}, {fewer, more}} {
				x := tail.New()
				for _, from := range ends {
					lay(t, x, whole[from:], -from)
				}
				holdLen(t, x, 2)
				hold(t, x, whole, answer{-more, len(whole) - more, true})
				hold(t, x, whole[more+1:], answer{-fewer, len(whole) - fewer, true})
			}
		}
	}
}

// TestTA1Errors has names that are none: nothing is put for these.
func TestTA1Errors(t *testing.T) {
	for _, c := range []struct {
		what string
		n    []string
		want api.Errno
	}{
		{"empty label alone", []string{""}, api.ErrLabel},
		{"empty label first", []string{"", "com"}, api.ErrLabel},
		{"empty label within", []string{"a", "", "com"}, api.ErrLabel},
		{"empty label last", []string{"com", ""}, api.ErrLabel},
		{"label of 64", []string{long(64)}, api.ErrLabel},
		{"label of 64 first", []string{long(64), "com"}, api.ErrLabel},
		{"label of 257", []string{long(257), "com"}, api.ErrLabel},
		{"label of many", []string{long(1 << 20)}, api.ErrLabel},
		{"name of 256", []string{long(63), long(63), long(63), long(62)}, api.ErrLong},
		{"name of 128 labels", ones(128), api.ErrLong},
		{"name of many labels", ones(100000), api.ErrLong},
		{"too long, and an empty label", append(ones(128), ""), api.ErrLabel},
		{"too long, and a label of 64", append([]string{long(64)}, ones(128)...), api.ErrLabel},
	} {
		empty, x := tail.New(), of(t, nil, dotted("com"), dotted("b.com"))
		for range 2 {
			if got := plain.Told(empty.Put(c.n, 9)); got != c.want {
				t.Errorf("%s: got %v, want %v", c.what, got, c.want)
			}
			if got := plain.Told(x.Put(c.n, 9)); got != c.want {
				t.Errorf("%s: got %v, want %v", c.what, got, c.want)
			}
		}
		holdLen(t, empty, 0)
		hold(t, empty, c.n, answer{})
		holdLen(t, x, 3)
		hold(t, x, nil, answer{0, 0, true})
		hold(t, x, dotted("a.com"), answer{1, 1, true})
		hold(t, x, dotted("a.b.com"), answer{2, 2, true})
	}
}

// TestTA1OfMany holds tails against plain lists: of labels that are much alike,
// in letters of any size, some of them none that a name has.
func TestTA1OfMany(t *testing.T) {
	below := numbers(5)
	labels := []string{"a", "A", "b", "B", "aa", "Ab", "ba", "a.b", "\x01a", "0", "", long(64)}
	for round := range 200 {
		x, l := tail.New(), list{}
		some := labels[:[]int{3, 6, len(labels)}[round%3]]
		drawn := func() []string {
			n := make([]string, below(6))
			for i := range n {
				n[i] = some[below(len(some))]
			}
			return n
		}
		for range 120 {
			n, val := drawn(), below(100)-50
			if err := x.Put(n, val); slices.Contains(n, "") || slices.Contains(n, long(64)) {
				if plain.Told(err) != api.ErrLabel {
					t.Fatalf("Put(%q): got %v", n, err)
				}
			} else {
				if err != nil {
					t.Fatalf("Put(%q): %v", n, err)
				}
				l.put(n, val)
			}
			holdLen(t, x, len(l))
			hold(t, x, n, l.get(n))
			other := drawn()
			hold(t, x, other, l.get(other))
		}
	}
}

// TestTA1Great has values for many names.
func TestTA1Great(t *testing.T) {
	const most = 100000
	x := tail.New()
	nameOf := func(i int) []string {
		return []string{string([]byte{byte(i), byte(i >> 8), '-'}), string([]byte{'N', byte(i >> 16)}), "Org"}
	}
	// Some of these names are the same but for the size of their letters.
	alike := map[string]int{}
	for i := range most {
		lay(t, x, nameOf(i*2), i)
		alike[small(strings.Join(nameOf(i*2), "."))] = i
	}
	holdLen(t, x, len(alike))
	for i := range most {
		want := answer{}
		if val, has := alike[small(strings.Join(nameOf(i), "."))]; has {
			want = answer{val, 3, true}
		}
		hold(t, x, append([]string{"z"}, nameOf(i)...), want)
	}
}

// TestTA1KeepsNothing changes what was handed in, which no call has written to.
func TestTA1KeepsNothing(t *testing.T) {
	room := []string{"Www", "Example", "ORG", "behind"}
	x := of(t, room[:3], room[1:3])
	hold(t, x, room[:3], answer{0, 3, true})
	hold(t, x, room[1:3], answer{1, 2, true})
	hold(t, x, room, answer{})
	if !slices.Equal(room, []string{"Www", "Example", "ORG", "behind"}) {
		t.Errorf("what was handed in is changed: %q", room)
	}
	room[0], room[1] = "ftp", "other"
	hold(t, x, room[:3], answer{})
	hold(t, x, dotted("www.example.org"), answer{0, 3, true})
	hold(t, x, dotted("ftp.example.org"), answer{1, 2, true})
	holdLen(t, x, 2)
}

// TestTA1Apart: no tails hang on others, and asking changes none.
func TestTA1Apart(t *testing.T) {
	x := of(t, dotted("com"))
	y := of(t, dotted("org"), dotted("com"))
	for range 3 {
		hold(t, x, dotted("a.com"), answer{0, 1, true})
		hold(t, y, dotted("a.com"), answer{1, 1, true})
		hold(t, x, dotted("a.org"), answer{})
		hold(t, y, dotted("a.org"), answer{0, 1, true})
		holdLen(t, x, 1)
		holdLen(t, y, 2)
	}
}
