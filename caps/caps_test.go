package caps_test

import (
	"slices"
	"strings"
	"testing"

	"pointsman/api"
	"pointsman/caps"
	"pointsman/name"
	"pointsman/plain"
)

const (
	great = "ABCDEFGHIJKLMNOPQRSTUVWXYZ"
	small = "abcdefghijklmnopqrstuvwxyz"
)

// bitsOf makes bits of a text: true where it has a 1.
func bitsOf(s string) []bool {
	bits := make([]bool, len(s))
	for i := range bits {
		bits[i] = s[i] == '1'
	}
	return bits
}

// numbers makes a source of numbers below others, the same each time.
func numbers(seed uint32) func(int) int {
	return func(n int) int {
		seed = seed*1664525 + 1013904223
		return int(seed>>16) % n
	}
}

// listOf makes a list of at most so many texts of such a source, of any bytes,
// about half of them letters.
func listOf(below func(int) int, most int) []string {
	n := make([]string, below(most+1))
	for i := range n {
		text := make([]byte, below(12))
		for j := range text {
			text[j] = byte(below(256))
			if below(2) == 0 {
				text[j] = (great + small)[below(52)]
			}
		}
		n[i] = string(text)
	}
	return n
}

// bitOf tells a letter's bit as the document has it, and if it is a letter.
func bitOf(c byte) (bool, bool) {
	if strings.IndexByte(great, c) >= 0 {
		return true, true
	}
	return false, strings.IndexByte(small, c) >= 0
}

// wantBits tells the bits of all texts, one behind the other.
func wantBits(n []string) []bool {
	var bits []bool
	for _, c := range []byte(strings.Join(n, "")) {
		if bit, is := bitOf(c); is {
			bits = append(bits, bit)
		}
	}
	return bits
}

// wantMix takes the bits, which are enough, from the last letter to the first.
func wantMix(n []string, bits []bool) []string {
	bits = bits[:len(wantBits(n))]
	mixed := slices.Clone(n)
	for i := len(n) - 1; i >= 0; i-- {
		text := ""
		for j := len(n[i]) - 1; j >= 0; j-- {
			one := n[i][j : j+1]
			if _, is := bitOf(one[0]); is {
				one = strings.ToLower(one)
				if bits[len(bits)-1] {
					one = strings.ToUpper(one)
				}
				bits = bits[:len(bits)-1]
			}
			text = one + text
		}
		mixed[i] = text
	}
	return mixed
}

func TestCA1(t *testing.T) {
	cases := []struct {
		n    []string
		bits string // those it has
		mix  string // those it is given
		want []string
	}{
		{nil, "", "", nil},
		{[]string{}, "", "", nil},
		{[]string{""}, "", "", []string{""}},
		{[]string{"", "", ""}, "", "", []string{"", "", ""}},
		{[]string{"a1", "B"}, "01", "10", []string{"A1", "b"}},
		{[]string{"a1", "B"}, "01", "01", []string{"a1", "B"}},
		{[]string{"aB"}, "01", "00", []string{"ab"}},
		{[]string{"aB"}, "01", "11", []string{"AB"}},
		{[]string{"", "Ab", "", "c", ""}, "100", "010", []string{"", "aB", "", "c", ""}},
		{[]string{"www", "Example", "org"}, "0001000000000", "1010000001011", []string{"WwW", "examplE", "oRG"}},
		{[]string{"-1-", "0", "_"}, "", "", []string{"-1-", "0", "_"}},
		{[]string{"@AZ[`az{"}, "1100", "0011", []string{"@az[`AZ{"}},
		{[]string{"a.b", `\z`}, "000", "111", []string{"A.B", `\Z`}},
		{[]string{"Éa", "\u212a", "ſ", "\xff\xc3Z\xc1\xe1"}, "01", "10", []string{"ÉA", "\u212a", "ſ", "\xff\xc3z\xc1\xe1"}},
		{[]string{"ａ", "ä", "а"}, "", "", []string{"ａ", "ä", "а"}},
	}
	for _, c := range cases {
		if got := caps.Letters(c.n); got != len(c.bits) {
			t.Errorf("Letters(%q): got %d, want %d", c.n, got, len(c.bits))
		}
		if got := caps.Bits(c.n); !slices.Equal(got, bitsOf(c.bits)) {
			t.Errorf("Bits(%q): got %v, want %s", c.n, got, c.bits)
		}
		if got, err := caps.Mix(c.n, bitsOf(c.mix)); err != nil || !slices.Equal(got, c.want) {
			t.Errorf("Mix(%q, %s): got %q, %v, want %q", c.n, c.mix, got, err, c.want)
		}
	}
}

func TestCA1EachByte(t *testing.T) {
	for b := range 256 {
		n := []string{string([]byte{byte(b)})}
		want := wantBits(n)
		if got := caps.Letters(n); got != len(want) {
			t.Errorf("Letters of byte %d: got %d", b, got)
		}
		if got := caps.Bits(n); !slices.Equal(got, want) {
			t.Errorf("Bits of byte %d: got %v", b, got)
		}
		for _, bit := range []bool{false, true} {
			want := wantMix(n, []bool{bit})
			if got, err := caps.Mix(n, []bool{bit}); err != nil || !slices.Equal(got, want) {
				t.Errorf("Mix of byte %d with %v: got %q, %v", b, bit, got, err)
			}
		}
	}
}

func TestCA1MixShort(t *testing.T) {
	cases := []struct {
		n    []string
		bits []bool
	}{
		{[]string{"a"}, nil},
		{[]string{"Z"}, []bool{}},
		{[]string{"ab"}, []bool{true}},
		{[]string{"a1", "B"}, []bool{false}},
		{[]string{"", "1", "", "x"}, nil},
		{[]string{"aB"}, bitsOf("11")[:1]},
		{[]string{strings.Repeat("q", 1000)}, make([]bool, 999)},
		{slices.Repeat([]string{"q"}, 1000), make([]bool, 999)},
	}
	for _, c := range cases {
		got, err := caps.Mix(c.n, c.bits)
		if plain.Told(err) != api.ErrShort || len(got) != 0 {
			t.Errorf("Mix(%.20q, %d bits): got %.20q, %v", c.n, len(c.bits), got, err)
		}
	}
}

// TestCA1MixBeyond: bits beyond the letters change nothing, whatever they are.
func TestCA1MixBeyond(t *testing.T) {
	cases := []struct {
		n    []string
		bits string
		want []string
	}{
		{nil, "1", nil},
		{[]string{""}, "101", []string{""}},
		{[]string{"1", "2"}, "11", []string{"1", "2"}},
		{[]string{"aB"}, "101", []string{"Ab"}},
		{[]string{"aB"}, "100", []string{"Ab"}},
		{[]string{"a", "1", "b"}, "0111111", []string{"a", "1", "B"}},
	}
	for _, c := range cases {
		if got, err := caps.Mix(c.n, bitsOf(c.bits)); err != nil || !slices.Equal(got, c.want) {
			t.Errorf("Mix(%q, %s): got %q, %v, want %q", c.n, c.bits, got, err, c.want)
		}
	}
}

// TestCA1OfNoNames: labels and lists that no name has are taken as well.
func TestCA1OfNoNames(t *testing.T) {
	lists := [][]string{
		{strings.Repeat("aB-", 100000)},
		slices.Repeat([]string{"a", "", "B-"}, 100000),
	}
	for _, n := range lists {
		if got := caps.Letters(n); got != 200000 {
			t.Errorf("Letters: got %d", got)
		}
		bits := caps.Bits(n)
		if !slices.Equal(bits, slices.Repeat([]bool{false, true}, 100000)) {
			t.Errorf("Bits: got %d that are wrong", len(bits))
		}
		if got, err := caps.Mix(name.Fold(n), bits); err != nil || !slices.Equal(got, n) {
			t.Errorf("Mix of a folded list with the bits of the list: not the list, %v", err)
		}
	}
}

func TestCA1OfManyLists(t *testing.T) {
	below := numbers(8)
	for range 20000 {
		n := listOf(below, 6)
		want := wantBits(n)
		if got := caps.Letters(n); got != len(want) {
			t.Fatalf("Letters(%q): got %d, want %d", n, got, len(want))
		}
		if got := caps.Bits(n); !slices.Equal(got, want) {
			t.Fatalf("Bits(%q): got %v, want %v", n, got, want)
		}
		bits := make([]bool, below(len(want)*2+2))
		for i := range bits {
			bits[i] = below(2) == 0
		}
		got, err := caps.Mix(n, bits)
		if len(bits) < len(want) {
			if plain.Told(err) != api.ErrShort || len(got) != 0 {
				t.Fatalf("Mix(%q, %v): got %q, %v", n, bits, got, err)
			}
			continue
		}
		if err != nil || !slices.Equal(got, wantMix(n, bits)) {
			t.Fatalf("Mix(%q, %v): got %q, %v", n, bits, got, err)
		}
		if back := caps.Bits(got); !slices.Equal(back, bits[:len(want)]) || !name.Same(got, n) {
			t.Fatalf("Mix(%q, %v): got %q, whose Bits are %v", n, bits, got, back)
		}
	}
}

// TestCA1SharesNothing has lists with room behind them, which stays as it is.
func TestCA1SharesNothing(t *testing.T) {
	room, bitRoom := []string{"aB", "1", "behind"}, bitsOf("0101")
	n, bits := room[:2], bitRoom[:2]
	caps.Letters(n)
	told := caps.Bits(n)
	mixed, err := caps.Mix(n, bits)
	if err != nil {
		t.Fatal(err)
	}
	mixed[0], mixed[1], told[0] = "changed", "changed", true
	_, _ = append(mixed, "more"), append(told, true)
	if !slices.Equal(room, []string{"aB", "1", "behind"}) || !slices.Equal(bitRoom, bitsOf("0101")) {
		t.Errorf("what was handed in is changed: %q, %v", room, bitRoom)
	}
	if again, err := caps.Mix(n, bits); err != nil || !slices.Equal(again, []string{"aB", "1"}) {
		t.Errorf("Mix again: got %q, %v", again, err)
	}
	if again := caps.Bits(n); !slices.Equal(again, bitsOf("01")) {
		t.Errorf("Bits again: got %v", again)
	}
}
