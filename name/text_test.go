package name_test

import (
	"fmt"
	"regexp"
	"slices"
	"strings"
	"testing"

	"pointsman/api"
	"pointsman/name"
	"pointsman/plain"
)

func TestNM3Text(t *testing.T) {
	cases := []struct {
		in   []string
		want string
	}{
		{nil, "."},
		{[]string{}, "."},
		{[]string{"a"}, "a."},
		{[]string{"WWW", "example", "org"}, "WWW.example.org."},
		{[]string{"a.b", "c"}, `a\.b.c.`},
		{[]string{"."}, `\..`},
		{[]string{`\`}, `\\.`},
		{[]string{`\.`, `.\`}, `\\\..\.\\.`},
		{[]string{"\x20\x21\x7e\x7f"}, `\032!~\127.`},
		{[]string{"\x00\x09\x63\x64\xc7\xff"}, `\000\009cd\199\255.`},
		{[]string{"é"}, `\195\169.`},
		{[]string{"065"}, "065."},
	}
	for _, c := range cases {
		got, err := name.Text(c.in)
		if err != nil || got != c.want {
			t.Errorf("Text(%q): got %q, %v, want %q", c.in, got, err, c.want)
		}
		back, err := name.Read(c.want)
		if err != nil || !slices.Equal(back, c.in) {
			t.Errorf("Read(%q): got %q, %v, want %q", c.want, back, err, c.in)
		}
	}
}

// written is how the document has one byte of a label.
func written(b byte) string {
	switch {
	case b == '.' || b == '\\':
		return `\` + string(rune(b))
	case b < 33 || b > 126:
		return fmt.Sprintf(`\%03d`, b)
	}
	return string(rune(b))
}

func TestNM3OfEachByte(t *testing.T) {
	for b := range 256 {
		for c := range 256 {
			n := []string{string([]byte{byte(b), byte(c)})}
			want := written(byte(b)) + written(byte(c)) + "."
			if got, err := name.Text(n); err != nil || got != want {
				t.Fatalf("Text(%q): got %q, %v, want %q", n, got, err, want)
			}
			if got, err := name.Read(want); err != nil || !slices.Equal(got, n) {
				t.Fatalf("Read(%q): got %q, %v, want %q", want, got, err, n)
			}
		}
	}
}

func TestNM3OfEachNumber(t *testing.T) {
	for number := range 1000 {
		s := fmt.Sprintf(`x\%03dy.`, number)
		got, err := name.Read(s)
		if number < 33 || number > 126 && number < 256 {
			if want := "x" + string([]byte{byte(number)}) + "y"; err != nil || !slices.Equal(got, []string{want}) {
				t.Errorf("Read(%q): got %q, %v", s, got, err)
			}
		} else if plain.Told(err) != api.ErrSyntax || len(got) != 0 {
			t.Errorf("Read(%q): got %q, %v", s, got, err)
		}
	}
}

func TestNM3TextErrors(t *testing.T) {
	cases := []struct {
		what string
		in   []string
		want api.Errno
	}{
		{"empty label", []string{"a", ""}, api.ErrLabel},
		{"label of 64", []string{long(64)}, api.ErrLabel},
		{"name of 256", []string{long(63), long(63), long(63), long(62)}, api.ErrLong},
		{"name of 257, and an empty label", append(ones(128), ""), api.ErrLabel},
	}
	for _, c := range cases {
		got, err := name.Text(c.in)
		if plain.Told(err) != c.want || got != "" {
			t.Errorf("%s: got %q, %v, want %v", c.what, got, err, c.want)
		}
	}
}

// TestNM3OfLongNames: bounds are of the name's bytes, not of the text's.
func TestNM3OfLongNames(t *testing.T) {
	for _, fill := range []byte{'x', '.', 0, 255} {
		for _, last := range []int{1, 60, 61, 62, 63, 64} {
			of := func(size int) string { return strings.Repeat(string([]byte{fill}), size) }
			n := []string{of(63), of(63), of(63), of(last)}
			s := ""
			for _, label := range n {
				s += strings.Repeat(written(fill), len(label)) + "."
			}
			got, err := name.Read(s)
			if last <= 61 && (err != nil || !slices.Equal(got, n)) {
				t.Errorf("Read of a name of byte %d, last label of %d: %v", fill, last, err)
			}
			if last > 61 && (plain.Told(err) != api.ErrSyntax || len(got) != 0) {
				t.Errorf("Read of a name of byte %d, last label of %d: got %q, %v", fill, last, got, err)
			}
		}
	}
	if got, err := name.Read(strings.Repeat("a.", 127)); err != nil || len(got) != 127 {
		t.Errorf("Read of 127 labels: got %d, %v", len(got), err)
	}
}

func TestNM3ReadErrors(t *testing.T) {
	cases := []string{
		"", "a", "a.b", "..", ".a.", "a..", "a..b.", ". ", " .", "a b.", "\x00.", "\x7f.", "é.",
		`\`, `\.`, `\a.`, `\1.`, `\12.`, `a\`, `a.\`, `a.\.`, `\00`, `\000`, `\0x0.`, `\00:.`, `\/00.`,
		`\065.`, `\046.`, `\092.`, `\033.`, `\126.`, `\256.`, `\300.`, `\512.`, `\999.`,
		long(63), long(64) + ".", strings.Repeat(`\000`, 64) + ".",
		strings.Repeat("a.", 128), strings.Repeat(".", 1<<20), strings.Repeat(`\`, 1<<20), strings.Repeat("a", 1<<20) + ".",
	}
	for _, s := range cases {
		got, err := name.Read(s)
		if plain.Told(err) != api.ErrSyntax || len(got) != 0 {
			t.Errorf("Read(%.40q): got %q, %v", s, got, err)
		}
	}
}

// texts tells all texts of at most so many of these bytes.
func texts(bytes string, most int, tell func(string)) {
	for _, labels := range listsOf(strings.Split(bytes, ""), most) {
		tell(strings.Join(labels, ""))
	}
}

func TestNM3ReadOfAllSmallTexts(t *testing.T) {
	one := `([!-\-/-\[\]-~]|\\[.\\]|\\(0[0-2][0-9]|03[0-2]|12[789]|1[3-9][0-9]|2[0-4][0-9]|25[0-5]))`
	form := regexp.MustCompile(`^(\.|(` + one + `+\.)+)$`)
	read := 0
	texts(`.\0256a `, 6, func(s string) {
		got, err := name.Read(s)
		if !form.MatchString(s) {
			if plain.Told(err) != api.ErrSyntax || len(got) != 0 {
				t.Fatalf("Read(%q): got %q, %v", s, got, err)
			}
			return
		}
		read++
		if back, wrong := name.Text(got); err != nil || wrong != nil || back != s {
			t.Fatalf("Read(%q): got %q, %v, whose Text is %q, %v", s, got, err, back, wrong)
		}
	})
	if read == 0 {
		t.Error("no text was read")
	}
}

func TestNM3ReadIsFresh(t *testing.T) {
	first, _ := name.Read("a.b.")
	first[0] = "changed"
	if again, err := name.Read("a.b."); err != nil || !slices.Equal(again, []string{"a", "b"}) {
		t.Errorf("Read again: got %q, %v", again, err)
	}
}
