package rr_test

import (
	"bytes"
	"math"
	"slices"
	"testing"

	"pointsman/api"
	"pointsman/name"
	"pointsman/plain"
	"pointsman/rr"
	"pointsman/wire"
)

func TestRR2Write(t *testing.T) {
	for _, c := range sent {
		for _, ahead := range []int{0, 1, 16384, 70000} {
			got, starts, err := rr.Write(room(ahead), nil, c.r)
			if err != nil || !bytes.Equal(got, join(room(ahead), c.want)) {
				t.Errorf("%s behind %d bytes: got %d, %v, want %d", c.what, ahead, got, err, c.want)
			}
			if _, want, _ := wire.Pack(room(ahead), nil, c.r.Name); !slices.Equal(starts, want) {
				t.Errorf("%s behind %d bytes: starts are %d, want %d", c.what, ahead, starts, want)
			}
		}
	}
}

// TestRR2WritePacks has a record's name with pointers, and the starts.
func TestRR2WritePacks(t *testing.T) {
	// a.com at 0, com at 2, the end at 6, com again at 7, and a length that is none at 12.
	msg := []byte{1, 97, 3, 99, 111, 109, 0, 3, 99, 111, 109, 0, 64}
	fields := []byte{0, 1, 0, 2, 0, 0, 0, 3, 0, 2, 8, 9}
	cases := []struct {
		what   string
		starts []int
		n      []string
		want   []byte // of the name
		told   []int
	}{
		{"no starts", nil, []string{"com"}, []byte{3, 99, 111, 109, 0}, []int{13}},
		{"whole name", []int{0, 2}, []string{"a", "com"}, []byte{192, 0}, []int{0, 2}},
		{"last label", []int{0, 2}, []string{"b", "com"}, []byte{1, 98, 192, 2}, []int{0, 2, 13}},
		{"two labels ahead", []int{0, 2}, []string{"c", "b", "com"}, []byte{1, 99, 1, 98, 192, 2}, []int{0, 2, 13, 15}},
		{"first of two", []int{7, 2}, []string{"com"}, []byte{192, 7}, []int{7, 2}},
		{"more labels ahead of an earlier one", []int{2, 0}, []string{"a", "com"}, []byte{192, 0}, []int{2, 0}},
		{"other letters", []int{0, 2}, []string{"Com"}, []byte{3, 67, 111, 109, 0}, []int{0, 2, 13}},
		{"root", []int{0, 6}, nil, []byte{0}, []int{0, 6}},
		{"starts with an error", []int{-1, 12, 2, 13, math.MaxInt}, []string{"b", "com"}, []byte{1, 98, 192, 2}, []int{2, 13}},
	}
	for _, c := range cases {
		r := api.Record{Name: c.n, Type: 1, Class: 2, TTL: 3, Data: []byte{8, 9}}
		got, told, err := rr.Write(msg, c.starts, r)
		if want := join(msg, c.want, fields); err != nil || !bytes.Equal(got, want) || !slices.Equal(told, c.told) {
			t.Errorf("%s: got %d, %d, %v, want %d, %d", c.what, got, told, err, want, c.told)
		}
		back, next, err := rr.Read(got, len(msg))
		if err != nil || !alike(back, r) || next != len(got) {
			t.Errorf("%s: read as %v, %d, %v", c.what, back, next, err)
		}
	}
}

// TestRR2WriteErrors has what is wrong, alone and with what is told behind it.
func TestRR2WriteErrors(t *testing.T) {
	full := some(65536)
	tooLong := []string{long(63), long(63), long(63), long(62)}
	cases := []struct {
		what string
		r    api.Record
		want api.Errno
	}{
		{"empty label", api.Record{Name: []string{"a", ""}}, api.ErrLabel},
		{"label of 64", api.Record{Name: []string{long(64)}}, api.ErrLabel},
		{"name of 256", api.Record{Name: tooLong}, api.ErrLong},
		{"Data of 65536", api.Record{Name: []string{"com"}, Data: full}, api.ErrFull},
		{"Data of far more", api.Record{Data: some(1 << 20)}, api.ErrFull},
		{"label, then Type, then Data", api.Record{Name: []string{""}, Type: -1, Data: full}, api.ErrLabel},
		{"name, then TTL, then Data", api.Record{Name: tooLong, TTL: -1, Data: full}, api.ErrLong},
		{"name, then Data", api.Record{Name: tooLong, Data: full}, api.ErrLong},
		{"Type, then Data", api.Record{Type: 65536, Data: full}, api.ErrRange},
		{"Class, then Data", api.Record{Class: -1, Data: full}, api.ErrRange},
		{"TTL, then Data", api.Record{TTL: 1 << 32, Data: full}, api.ErrRange},
	}
	for _, c := range cases {
		unwritten(t, c.what, c.r, c.want)
	}
	for _, n := range []int{math.MinInt, -1 << 32, -65536, -1, 1 << 32, 1<<32 + 1, 1 << 48, math.MaxInt} {
		unwritten(t, "TTL", api.Record{TTL: n}, api.ErrRange)
		unwritten(t, "TTL", api.Record{Name: []string{"a"}, Type: 65535, Class: 65535, TTL: n}, api.ErrRange)
	}
	for _, n := range []int{math.MinInt, -1 << 32, -65535, -1, 65536, 65537, 1<<32 - 1, 1 << 32, math.MaxInt} {
		unwritten(t, "Type", api.Record{Type: n}, api.ErrRange)
		unwritten(t, "Class", api.Record{Class: n}, api.ErrRange)
	}
}

// unwritten tells of a record of which Write does not have an error alone.
func unwritten(t *testing.T, what string, r api.Record, want api.Errno) {
	t.Helper()
	msg := []byte{3, 99, 111, 109, 0}
	got, starts, err := rr.Write(msg, []int{0}, r)
	if plain.Told(err) != want || len(got) != 0 || len(starts) != 0 {
		t.Errorf("%s: got %d bytes, %d, %v, want %v alone", what, len(got), starts, err, want)
	}
}

// TestRR2NumbersAreRead: each number that two bytes can have, and some of
// those that four can, are read as they were written.
func TestRR2NumbersAreRead(t *testing.T) {
	try := func(r api.Record) {
		msg, _, err := rr.Write(nil, nil, r)
		if err != nil {
			t.Fatalf("Write(%v): %v", r, err)
		}
		if got, next, err := rr.Read(msg, 0); err != nil || !alike(got, r) || next != len(msg) {
			t.Fatalf("%v is read as %v, %d, %v", r, got, next, err)
		}
	}
	for n := range 65536 {
		try(api.Record{Type: n, Class: 65535 - n, TTL: n * 65537})
		try(api.Record{TTL: n})
	}
	for bit := range 32 {
		try(api.Record{TTL: 1 << bit})
		try(api.Record{TTL: 1<<(bit+1) - 1})
	}
	for size := 0; size <= 65535; size += 255 {
		try(api.Record{Name: []string{"a"}, TTL: 1, Data: some(size)})
	}
}

// TestRR2OnlyNamesOfChapterOne: what Check passes is written, and is read again.
func TestRR2OnlyNamesOfChapterOne(t *testing.T) {
	for size := range 70 {
		for last := range 70 {
			r := api.Record{Name: []string{long(63), long(size), long(63), long(last)}, Type: 1, Class: 1}
			msg, _, err := rr.Write(nil, nil, r)
			if plain.Told(err) != plain.Told(name.Check(r.Name)) {
				t.Fatalf("labels of %d and %d: got %v", size, last, err)
			}
			if err != nil {
				continue
			}
			if got, next, err := rr.Read(msg, 0); err != nil || !alike(got, r) || next != len(msg) {
				t.Fatalf("labels of %d and %d: read as %v, %d, %v", size, last, got, next, err)
			}
		}
	}
}

// TestRR2RecordsAreRead writes many records behind each other, each with the
// starts that the one ahead of it told, on beyond the last place of a pointer,
// and reads and skips all of them again.
func TestRR2RecordsAreRead(t *testing.T) {
	msg := room(12)
	var starts []int
	var records []api.Record
	for i := range 1500 {
		n := []string{string(rune('a' + i%7)), long(1 + i%63), string(rune('A' + i%5)), "com"}[i%5:]
		r := api.Record{Name: n, Type: i, Class: 65535 - i, TTL: i << 20, Data: some(i % 40)}
		want, told, _ := wire.Pack(msg, starts, n)
		var err error
		if msg, starts, err = rr.Write(msg, starts, r); err != nil {
			t.Fatalf("Write of %v: %v", r, err)
		}
		if !bytes.HasPrefix(msg, want) || len(msg) != len(want)+10+len(r.Data) || !slices.Equal(starts, told) {
			t.Fatalf("record %d is not written as Pack has its name", i)
		}
		records = append(records, r)
	}
	if len(msg) <= 16384 {
		t.Fatalf("all of it stands within %d bytes", len(msg))
	}
	at := 12
	for i, r := range records {
		got, next, err := rr.Read(msg, at)
		if err != nil || !alike(got, r) {
			t.Fatalf("record %d is read as %v, %v, want %v", i, got, err, r)
		}
		ttl, end, err := rr.Skip(msg, at)
		if err != nil || end != next || ttl != next-len(r.Data)-6 {
			t.Fatalf("record %d is skipped as %d, %d, %v, want an end of %d", i, ttl, end, err, next)
		}
		at = next
	}
	if at != len(msg) {
		t.Errorf("the last record ends at %d of %d", at, len(msg))
	}
}

func TestRR2IsFresh(t *testing.T) {
	whole := []byte{3, 99, 111, 109, 0, 77, 77, 77, 77, 77, 77, 77, 77, 77, 77, 77, 77, 77, 77, 77}
	places := []int{0, 88, 88, 88}
	data := []byte{8, 9, 99}
	labels := []string{"a", "com", "behind"}
	was := bytes.Clone(whole)
	r := api.Record{Name: labels[:2], Type: 1, Data: data[:2]}
	one, told, err := rr.Write(whole[:5], places[:1], r)
	two, _, _ := rr.Write(whole[:5], places[:1], r)
	if err != nil {
		t.Fatal(err)
	}
	clear(one[:cap(one)])
	clear(told[:cap(told)])
	if !bytes.Equal(whole, was) || !slices.Equal(places, []int{0, 88, 88, 88}) ||
		!bytes.Equal(data, []byte{8, 9, 99}) || !slices.Equal(labels, []string{"a", "com", "behind"}) {
		t.Errorf("what was handed in is changed: %d, %d, %d, %q", whole, places, data, labels)
	}
	clear(whole)
	clear(data)
	clear(labels)
	want := []byte{3, 99, 111, 109, 0, 1, 97, 192, 0, 0, 1, 0, 0, 0, 0, 0, 0, 0, 2, 8, 9}
	if !bytes.Equal(two, want) {
		t.Errorf("what was handed in, or out, is kept: %d, want %d", two, want)
	}
}

// TestRR2DataOfTheMessage: Data may stand in the message's own memory.
func TestRR2DataOfTheMessage(t *testing.T) {
	whole := []byte{1, 2, 3, 4, 5, 6, 7, 8}
	got, _, err := rr.Write(whole[:4], nil, api.Record{Data: whole[2:8]})
	want := []byte{1, 2, 3, 4, 0, 0, 0, 0, 0, 0, 0, 0, 0, 0, 6, 3, 4, 5, 6, 7, 8}
	if err != nil || !bytes.Equal(got, want) || !bytes.Equal(whole, []byte{1, 2, 3, 4, 5, 6, 7, 8}) {
		t.Errorf("got %d, %v, want %d; the message is %d", got, err, want, whole)
	}
}
