package edns_test

import (
	"bytes"
	"math"
	"slices"
	"testing"

	"pointsman/api"
	"pointsman/edns"
	"pointsman/plain"
)

// some makes so many bytes of Data, not all of them the same.
func some(size int) []byte {
	data := make([]byte, size)
	for i := range data {
		data[i] = byte(i*7 + i/256)
	}
	return data
}

// join makes Data of its parts.
func join(parts ...[]byte) []byte { return bytes.Join(parts, nil) }

// alikeOpts tells if two messages tell the same of themselves; an empty list
// and nil are the same.
func alikeOpts(a, b api.Opt) bool {
	return a.Size == b.Size && a.Code == b.Code && a.Version == b.Version && a.Do == b.Do && a.Z == b.Z &&
		slices.EqualFunc(a.Options, b.Options, func(x, y api.Option) bool {
			return x.Code == y.Code && bytes.Equal(x.Data, y.Data)
		})
}

// of makes a message that has these records in More.
func of(more ...api.Record) api.Message { return api.Message{More: more} }

// pairs has what messages tell of themselves, with the records in which they
// do as the chapter has them.
var pairs = []struct {
	what string
	o    api.Opt
	r    api.Record
}{
	{"nothing", api.Opt{}, api.Record{Type: 41}},
	{"the chapter's own", api.Opt{Size: 1232, Code: 1, Do: true, Options: []api.Option{{Code: 8, Data: []byte{7}}}},
		api.Record{Type: 41, Class: 1232, TTL: 16809984, Data: []byte{0, 8, 0, 1, 7}}},
	{"each byte its own", api.Opt{Size: 772, Code: 1, Version: 2, Z: 772},
		api.Record{Type: 41, Class: 772, TTL: 0x01020304}},
	{"Size", api.Opt{Size: 65535}, api.Record{Type: 41, Class: 65535}},
	{"Code", api.Opt{Code: 255}, api.Record{Type: 41, TTL: 0xff000000}},
	{"Version", api.Opt{Version: 255}, api.Record{Type: 41, TTL: 0xff0000}},
	{"Do", api.Opt{Do: true}, api.Record{Type: 41, TTL: 32768}},
	{"Z", api.Opt{Z: 32767}, api.Record{Type: 41, TTL: 32767}},
	{"all of them", api.Opt{Size: 65535, Code: 255, Version: 255, Do: true, Z: 32767},
		api.Record{Type: 41, Class: 65535, TTL: 1<<32 - 1}},
	{"option without Data", api.Opt{Options: []api.Option{{Code: 10}}}, api.Record{Type: 41, Data: []byte{0, 10, 0, 0}}},
	{"option of which all is 0", api.Opt{Options: []api.Option{{}}}, api.Record{Type: 41, Data: []byte{0, 0, 0, 0}}},
	{"option's Code", api.Opt{Options: []api.Option{{Code: 65535, Data: []byte{255}}}},
		api.Record{Type: 41, Data: []byte{255, 255, 0, 1, 255}}},
	{"options in their order", api.Opt{Options: []api.Option{{Code: 772, Data: []byte{1, 2}}, {Code: 3}, {Code: 3, Data: []byte{0, 3, 0, 0}}, {Code: 1, Data: []byte{4}}}},
		api.Record{Type: 41, Data: []byte{3, 4, 0, 2, 1, 2, 0, 3, 0, 0, 0, 3, 0, 4, 0, 3, 0, 0, 0, 1, 0, 1, 4}}},
	{"255 bytes", api.Opt{Options: []api.Option{{Code: 1, Data: some(255)}}},
		api.Record{Type: 41, Data: join([]byte{0, 1, 0, 255}, some(255))}},
	{"256 bytes", api.Opt{Options: []api.Option{{Code: 1, Data: some(256)}}},
		api.Record{Type: 41, Data: join([]byte{0, 1, 1, 0}, some(256))}},
	{"the most that an option has", api.Opt{Options: []api.Option{{Code: 1, Data: some(65531)}}},
		api.Record{Type: 41, Data: join([]byte{0, 1, 255, 251}, some(65531))}},
	{"the most that two have", api.Opt{Options: []api.Option{{Code: 1, Data: some(65527)}, {Code: 2}}},
		api.Record{Type: 41, Data: join([]byte{0, 1, 255, 247}, some(65527), []byte{0, 2, 0, 0})}},
	{"the most options", api.Opt{Options: slices.Repeat([]api.Option{{Code: 9}}, 16383)},
		api.Record{Type: 41, Data: slices.Repeat([]byte{0, 9, 0, 0}, 16383)}},
}

// TestED1Find finds each record where it stands alone, and among others.
func TestED1Find(t *testing.T) {
	other := api.Record{Name: []string{"a"}, Type: 1, Class: -1, TTL: -1, Data: []byte{1}}
	for _, c := range pairs {
		for _, more := range [][]api.Record{{c.r}, {c.r, other}, {other, c.r}, {other, other, c.r, other}} {
			got, is, err := edns.Find(of(more...))
			if err != nil || !is || !alikeOpts(got, c.o) {
				t.Errorf("%s among %d: got %v, %v, %v, want %v", c.what, len(more), got, is, err, c.o)
			}
		}
	}
}

// TestED1EachBit finds each bit of a TTL where it belongs alone.
func TestED1EachBit(t *testing.T) {
	for bit := range 32 {
		var want api.Opt
		switch {
		case bit >= 24:
			want.Code = 1 << (bit - 24)
		case bit >= 16:
			want.Version = 1 << (bit - 16)
		case bit == 15:
			want.Do = true
		default:
			want.Z = 1 << bit
		}
		got, is, err := edns.Find(of(api.Record{Type: 41, TTL: 1 << bit}))
		if err != nil || !is || !alikeOpts(got, want) {
			t.Errorf("bit %d: got %v, %v, %v, want %v", bit, got, is, err, want)
		}
	}
}

// TestED1None asks messages that have no such record in More, though it may
// stand elsewhere, or look like one.
func TestED1None(t *testing.T) {
	opt := api.Record{Type: 41, Class: 512}
	cases := []struct {
		what string
		m    api.Message
	}{
		{"nothing", api.Message{}},
		{"in Answers and Authority", api.Message{Answers: []api.Record{opt, opt}, Authority: []api.Record{opt, opt}}},
		{"a question", api.Message{Questions: []api.Question{{Type: 41}, {Type: 41}}}},
		{"other Types", of(api.Record{Type: 40}, api.Record{Type: 42}, api.Record{Type: -41}, api.Record{Type: 41 + 65536}, api.Record{Type: 41 << 8})},
		{"Class", of(api.Record{Type: 1, Class: 41, TTL: 41, Data: []byte{41}})},
		{"behind the list", api.Message{More: []api.Record{{Type: 1}, opt}[:1]}},
	}
	for _, c := range cases {
		if got, is, err := edns.Find(c.m); err != nil || is || !alikeOpts(got, api.Opt{}) {
			t.Errorf("%s: got %v, %v, %v", c.what, got, is, err)
		}
	}
}

// lost tells of a message of which Find does not have an error alone.
func lost(t *testing.T, what string, m api.Message, want api.Errno) {
	t.Helper()
	if got, is, err := edns.Find(m); plain.Told(err) != want || is || !alikeOpts(got, api.Opt{}) {
		t.Errorf("%s: got %v, %v, %v, want %v alone", what, got, is, err, want)
	}
}

func TestED1Twice(t *testing.T) {
	right := api.Record{Type: 41, Class: 512}
	other := api.Record{Type: 1}
	wrong := api.Record{Name: []string{"a"}, Type: 41, Class: -1, TTL: -1, Data: []byte{1}}
	lost(t, "two", of(right, right), api.ErrTwice)
	lost(t, "three", of(right, right, right), api.ErrTwice)
	lost(t, "two of many", of(other, right, other, other, right, other), api.ErrTwice)
	lost(t, "two that differ", of(right, api.Record{Type: 41, Class: 513}), api.ErrTwice)
	lost(t, "the first one wrong", of(wrong, right), api.ErrTwice)
	lost(t, "the last one wrong", of(right, wrong), api.ErrTwice)
	lost(t, "both wrong", of(wrong, wrong), api.ErrTwice)
}

func TestED1Syntax(t *testing.T) {
	for _, name := range [][]string{{"a"}, {""}, {"a", "b"}, {"", ""}} {
		lost(t, "Name", of(api.Record{Name: name, Type: 41}), api.ErrSyntax)
	}
	for _, n := range []int{math.MinInt, -65536, -1, 65536, 1<<32 - 1, math.MaxInt} {
		lost(t, "Class", of(api.Record{Type: 41, Class: n}), api.ErrSyntax)
	}
	for _, n := range []int{math.MinInt, -1 << 32, -1, 1 << 32, 1<<32 + 1, math.MaxInt} {
		lost(t, "TTL", of(api.Record{Type: 41, TTL: n}), api.ErrSyntax)
	}
	for _, data := range [][]byte{{0}, {0, 1}, {0, 1, 0}, {0, 1, 0, 1}, {0, 1, 1, 0, 5}, {0, 1, 0, 2, 9},
		{0, 1, 255, 255, 1}, {0, 1, 0, 0, 9}, {0, 1, 0, 1, 9, 0}, {0, 1, 0, 0, 0, 0, 0}, {0, 1, 0, 0, 0, 2, 0, 1}} {
		lost(t, "Data", of(api.Record{Type: 41, Data: data}), api.ErrSyntax)
	}
	lost(t, "Data one too few", of(api.Record{Type: 41, Data: join([]byte{0, 1, 255, 255}, some(65534))}), api.ErrSyntax)
}

// TestED1Cut cuts Data at each byte: it is options alone where one of them ends.
func TestED1Cut(t *testing.T) {
	whole := []byte{0, 1, 0, 2, 8, 9, 0, 2, 0, 0, 0, 3, 0, 3, 0, 0, 0, 255, 4, 0, 0}
	ends := []int{0, 6, 10, 17, 21}
	for size := range len(whole) + 1 {
		m := of(api.Record{Type: 41, Data: whole[:size]})
		count := slices.Index(ends, size)
		if count < 0 {
			lost(t, "cut", m, api.ErrSyntax)
			continue
		}
		if got, is, err := edns.Find(m); err != nil || !is || len(got.Options) != count {
			t.Errorf("%d bytes: got %v, %v, %v, want %d options", size, got, is, err, count)
		}
	}
}

// TestED1LongData finds options that are too long to be sent: no bound is said.
func TestED1LongData(t *testing.T) {
	data := join([]byte{0, 1, 255, 255}, some(65535), []byte{0, 2, 255, 255}, some(65535), []byte{0, 3, 0, 0})
	want := api.Opt{Options: []api.Option{{Code: 1, Data: some(65535)}, {Code: 2, Data: some(65535)}, {Code: 3}}}
	got, is, err := edns.Find(of(api.Record{Type: 41, Data: data}))
	if err != nil || !is || !alikeOpts(got, want) {
		t.Errorf("got %d options, %v, %v", len(got.Options), is, err)
	}
	many := slices.Repeat([]byte{1, 2, 0, 1, 5}, 1<<18)
	got, is, err = edns.Find(of(api.Record{Type: 41, Data: many}))
	if err != nil || !is || len(got.Options) != 1<<18 {
		t.Errorf("got %d options, %v, %v", len(got.Options), is, err)
	}
}

// reckon has a record's options from the last byte on: for each place, if
// options alone stand from it on, the place of the second one.
func reckon(data []byte) ([]api.Option, bool) {
	next := make([]int, len(data)+1)
	for at := len(data) - 1; at >= 0; at-- {
		if at+4 > len(data) {
			continue
		}
		end := at + 4 + int(data[at+2])*256 + int(data[at+3])
		if end == len(data) || end < len(data) && next[end] > 0 {
			next[at] = end
		}
	}
	var options []api.Option
	for at := 0; at < len(data); at = next[at] {
		if next[at] == 0 {
			return nil, false
		}
		options = append(options, api.Option{Code: int(data[at])*256 + int(data[at+1]), Data: data[at+4 : next[at]]})
	}
	return options, true
}

// TestED1OfManyRecords finds what records of small numbers and bytes have.
func TestED1OfManyRecords(t *testing.T) {
	seed := uint32(6)
	below := func(n int) int {
		seed = seed*1664525 + 1013904223
		return int(seed>>16) % n
	}
	right := 0
	for range 200000 {
		data := make([]byte, below(16))
		for i := range data {
			data[i] = byte(below(8) / 5)
		}
		r := api.Record{Type: 41, Class: below(65536), TTL: below(65536)*65536 + below(65536), Data: data}
		options, ok := reckon(data)
		if !ok {
			lost(t, "record", of(r), api.ErrSyntax)
			continue
		}
		right++
		want := api.Opt{Size: r.Class, Code: r.TTL / 16777216, Version: r.TTL / 65536 % 256,
			Do: r.TTL%65536 >= 32768, Z: r.TTL % 32768, Options: options}
		if got, is, err := edns.Find(of(r)); err != nil || !is || !alikeOpts(got, want) {
			t.Fatalf("%v: got %v, %v, %v, want %v", r, got, is, err, want)
		}
	}
	if right < 10000 {
		t.Errorf("only %d records have options alone", right)
	}
}

func TestED1IsFresh(t *testing.T) {
	data := []byte{0, 1, 0, 2, 8, 9, 0, 2, 0, 1, 7, 99}
	m := of(api.Record{Type: 41, Data: data[:11]})
	want := api.Opt{Options: []api.Option{{Code: 1, Data: []byte{8, 9}}, {Code: 2, Data: []byte{7}}}}
	one, _, err := edns.Find(m)
	two, _, _ := edns.Find(m)
	if err != nil {
		t.Fatal(err)
	}
	first := one.Options[0].Data
	clear(first[:cap(first)])
	if one.Options[1].Data[0] != 7 {
		t.Errorf("lists share memory: %v", one)
	}
	last := one.Options[1].Data
	clear(last[:cap(last)])
	clear(one.Options[:cap(one.Options)])
	if !bytes.Equal(data, []byte{0, 1, 0, 2, 8, 9, 0, 2, 0, 1, 7, 99}) {
		t.Errorf("Find shares memory with what it was given: %d", data)
	}
	clear(data)
	clear(m.More)
	if !alikeOpts(two, want) {
		t.Errorf("Find keeps what it was given, or what it gave: %v", two)
	}
}
