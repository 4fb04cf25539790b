package msg_test

import (
	"bytes"
	"math"
	"slices"
	"strconv"
	"testing"

	"pointsman/api"
	"pointsman/head"
	"pointsman/msg"
	"pointsman/plain"
	"pointsman/rr"
	"pointsman/wire"
)

func TestMG2Write(t *testing.T) {
	for _, c := range sent {
		if got, err := msg.Write(c.m); err != nil || !bytes.Equal(got, c.want) {
			t.Errorf("%s: got %d, %v, want %d", c.what, got, err, c.want)
		}
	}
}

// write has a message as the chapter's words have it: each part with all the
// starts that those ahead of it told.
func write(m api.Message) ([]byte, error) {
	b, err := head.Write(m.Head)
	if err != nil {
		return nil, err
	}
	for _, n := range []int{len(m.Questions), len(m.Answers), len(m.Authority), len(m.More)} {
		if n > 65535 {
			return nil, api.ErrFull
		}
		b = append(b, byte(n/256), byte(n%256))
	}
	var starts []int
	for _, q := range m.Questions {
		if b, starts, err = wire.Pack(b, starts, q.Name); err != nil {
			return nil, err
		}
		if min(q.Type, q.Class) < 0 || max(q.Type, q.Class) > 65535 {
			return nil, api.ErrRange
		}
		b = append(b, byte(q.Type/256), byte(q.Type%256), byte(q.Class/256), byte(q.Class%256))
	}
	for _, r := range slices.Concat(m.Answers, m.Authority, m.More) {
		if b, starts, err = rr.Write(b, starts, r); err != nil {
			return nil, err
		}
	}
	if len(b) > 65535 {
		return nil, api.ErrFull
	}
	return b, nil
}

// same tells of a message that Write does not have as the words do, or that is
// not read as it was.
func same(t *testing.T, what string, m api.Message) {
	t.Helper()
	want, wrong := write(m)
	got, err := msg.Write(m)
	if plain.Told(err) != plain.Told(wrong) || !bytes.Equal(got, want) {
		t.Fatalf("%s: got %d bytes, %v, want %d bytes, %v; %d is not %d", what, len(got), err, len(want), wrong, got, want)
	}
	if err != nil {
		return
	}
	if back, err := msg.Read(got); err != nil || !alike(back, m) {
		t.Fatalf("%s: read as %v, %v", what, back, err)
	}
}

// TestMG2OfManyMessages writes messages whose names have their ends in common,
// with what is wrong here and there.
func TestMG2OfManyMessages(t *testing.T) {
	seed := uint32(7)
	next := func(below int) int {
		seed = seed*1664525 + 1013904223
		return int(seed>>16) % below
	}
	number := func() int {
		if next(60) == 0 {
			return []int{-1, 65536}[next(2)]
		}
		return next(65536)
	}
	labels := []string{"a", "A", "b", "ab", "\x01a", "com", "\x00", "\xc0\x0c"}
	name := func() []string {
		if next(100) == 0 {
			return [][]string{{""}, {long(64)}, {"a", ""}, {long(63), long(63), long(63), long(62)}}[next(4)]
		}
		var n []string
		for range next(5) {
			n = append(n, labels[next(len(labels))])
		}
		return n
	}
	records := func(most int) []api.Record {
		var list []api.Record
		for range next(most) {
			r := api.Record{Name: name(), Type: number(), Class: number(), TTL: next(65536) * 65537}
			r.Data = bytes.Repeat([]byte{1, 97, 0}, next(4))
			list = append(list, r)
		}
		return list
	}
	for range 20000 {
		m := api.Message{Head: api.Header{ID: next(65536), RD: next(2) == 1, Code: next(16)}}
		for range next(6) {
			m.Questions = append(m.Questions, api.Question{Name: name(), Type: number(), Class: number()})
		}
		m.Answers, m.Authority, m.More = records(6), records(4), records(4)
		same(t, "some message", m)
	}
}

// TestMG2FarPlaces writes on beyond the last place to which a pointer leads:
// what stands there is written again, and ends that stand ahead are not.
func TestMG2FarPlaces(t *testing.T) {
	for gap := range 40 {
		m := api.Message{
			Questions: []api.Question{{Name: []string{"a", "com"}}},
			Answers: []api.Record{
				{Data: make([]byte, 16384-12-11-11-20+gap)}, // what follows begins about place 16384
				{Name: []string{"x", "y", "z", "com"}},
				{Name: []string{"x", "y", "z", "com"}},
				{Name: []string{"y", "z", "com"}},
				{Name: []string{"z", "com"}},
			},
			More: []api.Record{{Name: []string{"a", "com"}}, {Name: []string{"far"}}, {Name: []string{"far"}}},
		}
		same(t, strconv.Itoa(gap), m)
	}
	// A name at place 16383 is pointed to, one at 16384 is not.
	for place, nameSize := range map[int]int{16383: 2, 16384: 3} {
		m := api.Message{
			Answers: []api.Record{{Data: make([]byte, place-12-11)}, {Name: []string{"a"}}},
			More:    []api.Record{{Name: []string{"a"}, Data: []byte{1, 2, 3, 4}}},
		}
		b, err := msg.Write(m)
		if size := place + 13 + nameSize + 14; err != nil || len(b) != size {
			t.Errorf("at %d: %d bytes, %v, want %d", place, len(b), err, size)
		}
	}
}

// unwritten tells of a message of which Write does not have an error alone.
func unwritten(t *testing.T, what string, m api.Message, want api.Errno) {
	t.Helper()
	if got, err := msg.Write(m); plain.Told(err) != want || len(got) != 0 {
		t.Errorf("%s: got %d bytes, %v, want %v alone", what, len(got), err, want)
	}
}

var tooLong = []string{long(63), long(63), long(63), long(62)}

// TestMG2WriteErrors has what is wrong, alone and with what is told behind it.
func TestMG2WriteErrors(t *testing.T) {
	many := make([]api.Question, 65536)
	list := make([]api.Record, 65536)
	full := make([]byte, 65536)
	wrong := []api.Question{{Name: []string{""}, Type: -1}}
	label := []api.Record{{Name: []string{""}, Type: -1, Data: full}}
	ranged := []api.Record{{Type: -1, Data: full}}
	data := []api.Record{{Data: full}}
	cases := []struct {
		what string
		m    api.Message
		want api.Errno
	}{
		{"ID", api.Message{Head: api.Header{ID: 65536}}, api.ErrRange},
		{"Opcode", api.Message{Head: api.Header{Opcode: -1}}, api.ErrRange},
		{"Code", api.Message{Head: api.Header{Code: 16}}, api.ErrRange},
		{"header, then questions", api.Message{Head: api.Header{Code: 16}, Questions: many}, api.ErrRange},
		{"header, then a label", api.Message{Head: api.Header{Code: 16}, Questions: wrong}, api.ErrRange},
		{"65536 questions", api.Message{Questions: many}, api.ErrFull},
		{"65536 answers", api.Message{Answers: list}, api.ErrFull},
		{"65536 authority", api.Message{Authority: list}, api.ErrFull},
		{"65536 more", api.Message{More: list}, api.ErrFull},
		{"65536 more, then a label", api.Message{Questions: wrong, More: list}, api.ErrFull},
		{"65536 answers, then a label", api.Message{Questions: wrong, Answers: list}, api.ErrFull},
		{"65536 authority, then a label", api.Message{Answers: label, Authority: list}, api.ErrFull},
		{"65536 questions, then a label", api.Message{Questions: append(wrong, many[1:]...)}, api.ErrFull},
		{"65535 questions, and a label", api.Message{Questions: append(wrong, many[2:]...)}, api.ErrLabel},
		{"65535 answers, and a label", api.Message{Answers: append(label, list[2:]...)}, api.ErrLabel},
		{"65535 authority, and a label", api.Message{Questions: wrong, Authority: list[1:]}, api.ErrLabel},
		{"65535 more, and a label", api.Message{Questions: wrong, More: list[1:]}, api.ErrLabel},
		{"name of a question", api.Message{Questions: []api.Question{{Name: tooLong, Class: -1}}}, api.ErrLong},
		{"label of a question", api.Message{Questions: wrong}, api.ErrLabel},
		{"Type of a question", api.Message{Questions: []api.Question{{Type: -1}}, Answers: label}, api.ErrRange},
		{"Class of a question", api.Message{Questions: []api.Question{{Class: 65536}}, Answers: label}, api.ErrRange},
		{"second question", api.Message{Questions: []api.Question{{Name: []string{"a"}}, {Name: tooLong}}, Answers: label}, api.ErrLong},
		{"range of the first, then label of the second", api.Message{Questions: []api.Question{{Type: 65536}, wrong[0]}}, api.ErrRange},
		{"answer ahead of authority", api.Message{Answers: data, Authority: ranged, More: label}, api.ErrFull},
		{"authority ahead of more", api.Message{Authority: ranged, More: label}, api.ErrRange},
		{"more", api.Message{More: label}, api.ErrLabel},
		{"TTL", api.Message{More: []api.Record{{TTL: 1 << 32}}}, api.ErrRange},
		{"Data", api.Message{More: data}, api.ErrFull},
	}
	for _, c := range cases {
		unwritten(t, c.what, c.m, c.want)
	}
	for _, n := range []int{math.MinInt, -65536, -1, 65536, 65537, 1 << 32, math.MaxInt} {
		unwritten(t, "Type", api.Message{Questions: []api.Question{{Type: n}}}, api.ErrRange)
		unwritten(t, "Class", api.Message{Questions: []api.Question{{Class: n}}}, api.ErrRange)
		unwritten(t, "Type", api.Message{Answers: []api.Record{{Type: n}}}, api.ErrRange)
		unwritten(t, "Class", api.Message{Authority: []api.Record{{Class: n}}}, api.ErrRange)
	}
}

// sized makes a message of so many bytes, by one record's Data.
func sized(size int) api.Message {
	m := api.Message{
		Questions: []api.Question{{Name: []string{"a"}, Type: 1}},
		Answers:   []api.Record{{Name: []string{"a"}, Type: 1, Data: []byte{1}}},
	}
	m.More = []api.Record{{Name: []string{"b"}, Data: make([]byte, size-12-7-13-13)}}
	return m
}

func TestMG2Full(t *testing.T) {
	for _, size := range []int{65534, 65535} {
		b, err := msg.Write(sized(size))
		if err != nil || len(b) != size {
			t.Errorf("of %d bytes: got %d, %v", size, len(b), err)
		}
		if back, err := msg.Read(b); err != nil || !alike(back, sized(size)) {
			t.Errorf("of %d bytes: it is not read again: %v", size, err)
		}
	}
	unwritten(t, "of 65536 bytes", sized(65536), api.ErrFull)
	unwritten(t, "Data of 65535", api.Message{More: []api.Record{{Data: make([]byte, 65535)}}}, api.ErrFull)
	// 13104 questions of the root are 65532 bytes.
	if b, err := msg.Write(api.Message{Questions: make([]api.Question, 13104)}); err != nil || len(b) != 65532 {
		t.Errorf("13104 questions: %d bytes, %v", len(b), err)
	}
	unwritten(t, "13105 questions", api.Message{Questions: make([]api.Question, 13105)}, api.ErrFull)
	unwritten(t, "65535 questions", api.Message{Questions: make([]api.Question, 65535)}, api.ErrFull)
	// By pointers it is short enough: 5000 names, of which all but the first take two bytes.
	m := api.Message{Questions: slices.Repeat([]api.Question{{Name: []string{long(63), long(63)}}}, 5000)}
	if b, err := msg.Write(m); err != nil || len(b) != 12+133+4999*6 {
		t.Errorf("5000 questions of a long name: %d bytes, %v", len(b), err)
	}
}

// TestMG2WrongBehindFull: what is wrong with a part is told ahead of a message
// that is too long, however far behind the part stands.
func TestMG2WrongBehindFull(t *testing.T) {
	for _, parts := range []int{0, 1, 2, 1000} {
		for _, c := range []struct {
			what string
			r    api.Record
			want api.Errno
		}{
			{"nothing", api.Record{Name: []string{"a"}}, api.ErrFull},
			{"label", api.Record{Name: []string{"a", ""}, Type: -1}, api.ErrLabel},
			{"name", api.Record{Name: tooLong, Type: -1}, api.ErrLong},
			{"Type", api.Record{Type: -1}, api.ErrRange},
			{"TTL", api.Record{TTL: -1}, api.ErrRange},
		} {
			m := sized(65536)
			m.More = append(m.More, slices.Repeat([]api.Record{{Name: []string{"a"}}, {Name: []string{"c", "b"}}}, parts)...)
			m.More = append(m.More, c.r, api.Record{Name: []string{"b"}})
			unwritten(t, c.what, m, c.want)
		}
	}
	questions := make([]api.Question, 20000)
	questions[19999].Class = 65536
	unwritten(t, "Class of a question", api.Message{Questions: questions}, api.ErrRange)
	questions[19999] = api.Question{Name: tooLong}
	unwritten(t, "name of a question", api.Message{Questions: questions}, api.ErrLong)
}

// TestMG2ManyNames writes a message with about as many starts as there can be,
// and as many parts behind them as fit: it must not take their product.
func TestMG2ManyNames(t *testing.T) {
	var m api.Message
	for i := range 63 {
		n := slices.Repeat([]string{"a"}, 126)
		m.Questions = append(m.Questions, api.Question{Name: append(n, string(rune('A'+i%64)))})
	}
	for i := range 8000 {
		m.Questions = append(m.Questions, api.Question{Name: m.Questions[i%63].Name[i%127:], Type: i})
	}
	b, err := msg.Write(m)
	if want := 12 + 63*259 + 8000*6; err != nil || len(b) != want {
		t.Fatalf("got %d bytes, %v, want %d", len(b), err, want)
	}
	if back, err := msg.Read(b); err != nil || !alike(back, m) {
		t.Errorf("it is not read as it was: %v", err)
	}
	for len(m.Questions) < 65535 {
		m.Questions = append(m.Questions, m.Questions[len(m.Questions)-8000])
	}
	unwritten(t, "far more", m, api.ErrFull)
}

func TestMG2IsFresh(t *testing.T) {
	labels := []string{"a", "com", "behind"}
	data := []byte{8, 9, 99}
	answers := []api.Record{{Name: labels[:2], Type: 1, Data: data[:2]}, {Type: 77}}
	questions := []api.Question{{Name: labels[:2], Type: 1}, {Type: 88}}
	m := api.Message{Questions: questions[:1], Answers: answers[:1]}
	one, err := msg.Write(m)
	two, _ := msg.Write(m)
	if err != nil {
		t.Fatal(err)
	}
	want := bytes.Clone(one)
	clear(one[:cap(one)])
	if !slices.Equal(labels, []string{"a", "com", "behind"}) || !bytes.Equal(data, []byte{8, 9, 99}) ||
		answers[1].Type != 77 || questions[1].Type != 88 {
		t.Errorf("what was handed in is changed: %q, %d, %v, %v", labels, data, answers, questions)
	}
	clear(labels)
	clear(data)
	clear(answers)
	clear(questions)
	if !bytes.Equal(two, want) {
		t.Errorf("what was handed in, or out, is kept: %d, want %d", two, want)
	}
}
