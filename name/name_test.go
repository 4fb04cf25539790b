package name_test

import (
	"slices"
	"strings"
	"testing"

	"pointsman/api"
	"pointsman/name"
	"pointsman/plain"
)

// long makes a label of so many bytes.
func long(size int) string { return strings.Repeat("x", size) }

// ones makes a name of so many labels, each of one byte.
func ones(count int) []string { return slices.Repeat([]string{"a"}, count) }

func TestNM1Check(t *testing.T) {
	cases := []struct {
		what string
		in   []string
		want api.Errno
	}{
		{"root, nil", nil, api.OK},
		{"root, empty", []string{}, api.OK},
		{"ordinary", []string{"www", "example", "org"}, api.OK},
		{"any bytes", []string{"\x00 .\\\x7f\xff"}, api.OK},
		{"label of 1", []string{"a"}, api.OK},
		{"label of 63", []string{long(63)}, api.OK},
		{"label of 64", []string{long(64)}, api.ErrLabel},
		{"label of 256", []string{long(256)}, api.ErrLabel},
		{"label of 63 bytes in more than one a rune", []string{strings.Repeat("é", 31) + "x"}, api.OK},
		{"label of 64 bytes in 32 runes", []string{strings.Repeat("é", 32)}, api.ErrLabel},
		{"empty label alone", []string{""}, api.ErrLabel},
		{"empty label first", []string{"", "a"}, api.ErrLabel},
		{"empty label within", []string{"a", "", "b"}, api.ErrLabel},
		{"empty label last", []string{"a", ""}, api.ErrLabel},
		{"long label last", []string{"a", long(64)}, api.ErrLabel},
		{"name of 254", []string{long(63), long(63), long(63), long(60)}, api.OK},
		{"name of 255", []string{long(63), long(63), long(63), long(61)}, api.OK},
		{"name of 256", []string{long(63), long(63), long(63), long(62)}, api.ErrLong},
		{"name of 255 in 127 labels", ones(127), api.OK},
		{"name of 256 in 127 labels", append(ones(126), "bb"), api.ErrLong},
		{"name of 257 in 128 labels", ones(128), api.ErrLong},
		{"many labels", ones(100000), api.ErrLong},
		{"too long, and then an empty label", append(ones(128), ""), api.ErrLabel},
		{"too long, and then a long label", append(ones(300), long(64)), api.ErrLabel},
		{"too long by its one label", []string{long(300)}, api.ErrLabel},
	}
	for _, c := range cases {
		if got := plain.Told(name.Check(c.in)); got != c.want {
			t.Errorf("%s: got %v, want %v", c.what, got, c.want)
		}
	}
}

func TestNM2FoldBytes(t *testing.T) {
	for b := range 256 {
		want := byte(b)
		if i := strings.IndexByte("ABCDEFGHIJKLMNOPQRSTUVWXYZ", want); i >= 0 {
			want = "abcdefghijklmnopqrstuvwxyz"[i]
		}
		got := name.Fold([]string{string([]byte{byte(b)})})
		if !slices.Equal(got, []string{string([]byte{want})}) {
			t.Errorf("Fold of byte %d: got %q", b, got)
		}
	}
}

func TestNM2Fold(t *testing.T) {
	cases := []struct{ in, want []string }{
		{nil, nil},
		{[]string{}, nil},
		{[]string{"WwW", "eXample", "ORG"}, []string{"www", "example", "org"}},
		{[]string{"", "A", ""}, []string{"", "a", ""}},
		{[]string{"É", "\u212a", "\xff\xc3Z"}, []string{"É", "\u212a", "\xff\xc3z"}},
		{[]string{strings.Repeat("Q", 1000)}, []string{strings.Repeat("q", 1000)}},
	}
	for _, c := range cases {
		if got := name.Fold(c.in); !slices.Equal(got, c.want) {
			t.Errorf("Fold(%q): got %q, want %q", c.in, got, c.want)
		}
	}
}

func TestNM2FoldIsFresh(t *testing.T) {
	for _, label := range []string{"Ab", "ab"} {
		room := []string{label, "c", "behind"}
		in := room[:2]
		out := name.Fold(in)
		out[0] = "changed"
		_ = append(out, "more")
		if !slices.Equal(room, []string{label, "c", "behind"}) {
			t.Errorf("Fold shares memory with what it was given: %q", room)
		}
		in[1] = "late"
		if out[1] != "c" {
			t.Errorf("Fold keeps what it was given: %q", out)
		}
	}
}

func TestNM2Same(t *testing.T) {
	cases := []struct {
		a, b []string
		want bool
	}{
		{nil, nil, true},
		{nil, []string{}, true},
		{nil, []string{""}, false},
		{[]string{""}, []string{"", ""}, false},
		{[]string{"a", "B"}, []string{"A", "b"}, true},
		{[]string{"a", "b"}, []string{"b", "a"}, false},
		{[]string{"a", "b"}, []string{"b"}, false},
		{[]string{"b"}, []string{"a", "b"}, false},
		{[]string{"a", "b"}, []string{"a"}, false},
		{[]string{"ab"}, []string{"a", "b"}, false},
		{[]string{"a", "bc"}, []string{"ab", "c"}, false},
		{[]string{"ab"}, []string{"a"}, false},
		{[]string{"@"}, []string{"`"}, false},
		{[]string{"["}, []string{"{"}, false},
		{[]string{"k"}, []string{"\u212a"}, false},
		{[]string{"\xc9"}, []string{"\xe9"}, false},
		{[]string{"\xfe"}, []string{"\xff"}, false},
	}
	for _, c := range cases {
		if got := name.Same(c.a, c.b); got != c.want {
			t.Errorf("Same(%q, %q): got %v", c.a, c.b, got)
		}
	}
}

// TestNM2CompareInOrder has names in their order: each is behind all ahead of it.
func TestNM2CompareInOrder(t *testing.T) {
	order := [][]string{
		nil,
		{""},
		{"z", ""},
		{"\x00"},
		{"\x00\x00"},
		{"-"},
		{"["}, // ahead of Z, which is folded
		{"`"},
		{"a"},
		{"a", "A"},
		{"Aa", "a"},
		{"z", "AA", "a"},
		{"B", "a"},
		{"a", "B", "A"},
		{"b", "b", "a"},
		{"zz", "a"},
		{"a\x00"},
		{"aA"},
		{"ab"},
		{"a", "AB"},
		{"B"},
		{"Z"},
		{"{"},
		{"\x7f"},
		{"\x80"},
		{"\xff"},
		{"a", "\xff"},
	}
	for i, a := range order {
		for j, b := range order {
			want := max(-1, min(1, i-j))
			if got := name.Compare(a, b); got != want {
				t.Errorf("Compare(%q, %q): got %d, want %d", a, b, got, want)
			}
		}
	}
}

func TestNM2CompareAlike(t *testing.T) {
	cases := [][2][]string{
		{nil, {}},
		{{"a", "B"}, {"A", "b"}},
		{{"", "Z"}, {"", "z"}},
		{{"xY", "", "Q"}, {"Xy", "", "q"}},
	}
	for _, c := range cases {
		if got := name.Compare(c[0], c[1]); got != 0 {
			t.Errorf("Compare(%q, %q): got %d", c[0], c[1], got)
		}
	}
}

// listsOf makes all lists of at most so many labels.
func listsOf(labels []string, most int) [][]string {
	lists := [][]string{nil}
	for from := 0; most > 0; most-- {
		until := len(lists)
		for _, list := range lists[from:until] {
			for _, label := range labels {
				lists = append(lists, append(slices.Clone(list), label))
			}
		}
		from = until
	}
	return lists
}

// turned has the labels of a folded name from the last to the first one.
func turned(n []string) []string {
	n = slices.Clone(n)
	for i := range n {
		n[i] = strings.ToLower(n[i])
	}
	slices.Reverse(n)
	return n
}

func TestNM2OfAllSmallLists(t *testing.T) {
	lists := listsOf([]string{"", "a", "A", "ab", "B"}, 3)
	for _, a := range lists {
		for _, b := range lists {
			x, y := turned(a), turned(b)
			if got, want := name.Compare(a, b), slices.Compare(x, y); got != want {
				t.Fatalf("Compare(%q, %q): got %d, want %d", a, b, got, want)
			}
			if got, want := name.Same(a, b), slices.Equal(x, y); got != want {
				t.Fatalf("Same(%q, %q): got %v", a, b, got)
			}
			want := len(x) >= len(y) && slices.Equal(x[:len(y)], y)
			if got := name.Under(a, b); got != want {
				t.Fatalf("Under(%q, %q): got %v", a, b, got)
			}
		}
	}
}

func TestNM2Under(t *testing.T) {
	cases := []struct {
		a, b []string
		want bool
	}{
		{nil, nil, true},
		{[]string{"a"}, nil, true},
		{nil, []string{"a"}, false},
		{nil, []string{""}, false},
		{[]string{"www", "Example", "org"}, []string{"example", "ORG"}, true},
		{[]string{"example", "org"}, []string{"example", "org"}, true},
		{[]string{"org"}, []string{"example", "org"}, false},
		{[]string{"www", "example", "org"}, []string{"www", "example"}, false},
		{[]string{"www", "example", "org"}, []string{"www", "org"}, false},
		{[]string{"badexample", "org"}, []string{"example", "org"}, false},
		{[]string{"a", "@"}, []string{"`"}, false},
		{ones(300), ones(299), true},
		{ones(299), ones(300), false},
	}
	for _, c := range cases {
		if got := name.Under(c.a, c.b); got != c.want {
			t.Errorf("Under(%q, %q): got %v", c.a, c.b, got)
		}
	}
}

func TestNM2WritesNothing(t *testing.T) {
	a, b := []string{"X", "A"}, []string{"x", "a"}
	name.Same(a, b)
	name.Compare(a, b)
	name.Under(a, b)
	if !slices.Equal(a, []string{"X", "A"}) || !slices.Equal(b, []string{"x", "a"}) {
		t.Errorf("what was handed in is changed: %q, %q", a, b)
	}
}
