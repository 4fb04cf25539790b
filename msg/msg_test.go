package msg_test

import (
	"bytes"
	"slices"
	"strings"
	"testing"

	"pointsman/api"
	"pointsman/head"
	"pointsman/msg"
	"pointsman/plain"
	"pointsman/rr"
	"pointsman/wire"
)

// long makes a label of so many bytes.
func long(size int) string { return strings.Repeat("x", size) }

// join makes a message of its parts.
func join(parts ...[]byte) []byte { return bytes.Join(parts, nil) }

// counts makes the first 12 bytes of a message, with a header of which all is 0.
func counts(questions, answers, authority, more int) []byte {
	b := make([]byte, 4)
	for _, n := range []int{questions, answers, authority, more} {
		b = append(b, byte(n/256), byte(n%256))
	}
	return b
}

func alikeRecords(a, b []api.Record) bool {
	return slices.EqualFunc(a, b, func(x, y api.Record) bool {
		return slices.Equal(x.Name, y.Name) && x.Type == y.Type && x.Class == y.Class &&
			x.TTL == y.TTL && bytes.Equal(x.Data, y.Data)
	})
}

// alike tells if two messages are the same; an empty list and nil are.
func alike(a, b api.Message) bool {
	return a.Head == b.Head &&
		slices.EqualFunc(a.Questions, b.Questions, func(x, y api.Question) bool {
			return slices.Equal(x.Name, y.Name) && x.Type == y.Type && x.Class == y.Class
		}) &&
		alikeRecords(a.Answers, b.Answers) && alikeRecords(a.Authority, b.Authority) && alikeRecords(a.More, b.More)
}

// none tells if a message has nothing in it.
func none(m api.Message) bool { return alike(m, api.Message{}) }

// sent has messages with their bytes as the chapters have them.
var sent = []struct {
	what string
	m    api.Message
	want []byte
}{
	{"nothing", api.Message{}, make([]byte, 12)},
	{"header", api.Message{Head: api.Header{ID: 258, Answer: true, Opcode: 2, RD: true, RA: true, CD: true, Code: 3}},
		[]byte{1, 2, 145, 147, 0, 0, 0, 0, 0, 0, 0, 0}},
	{"question", api.Message{Questions: []api.Question{{Name: []string{"aB", "c"}, Type: 258, Class: 772}}},
		join(counts(1, 0, 0, 0), []byte{2, 97, 66, 1, 99, 0, 1, 2, 3, 4})},
	{"question of the root", api.Message{Questions: []api.Question{{Type: 65535, Class: 65535}}},
		join(counts(1, 0, 0, 0), []byte{0, 255, 255, 255, 255})},
	{"answer", api.Message{Answers: []api.Record{{Name: []string{"a"}, Type: 1, Class: 2, TTL: 84281096, Data: []byte{9, 10}}}},
		join(counts(0, 1, 0, 0), []byte{1, 97, 0, 0, 1, 0, 2, 5, 6, 7, 8, 0, 2, 9, 10})},
	{"authority", api.Message{Authority: []api.Record{{Type: 6}}},
		join(counts(0, 0, 1, 0), []byte{0, 0, 6, 0, 0, 0, 0, 0, 0, 0, 0})},
	{"more", api.Message{More: []api.Record{{Type: 41, Class: 4096, TTL: 32768, Data: []byte{0, 10, 0, 0}}}},
		join(counts(0, 0, 0, 1), []byte{0, 0, 41, 16, 0, 0, 0, 128, 0, 0, 4, 0, 10, 0, 0})},
	{"questions by pointers", api.Message{Questions: []api.Question{
		{Name: []string{"a", "com"}, Type: 1, Class: 1},
		{Name: []string{"com"}, Type: 2, Class: 1},
		{Name: []string{"b", "a", "com"}, Type: 3, Class: 1},
		{Name: []string{"b", "a", "com"}, Type: 4, Class: 1},
		{Name: []string{"b", "a", "Com"}, Type: 5, Class: 1},
	}}, join(counts(5, 0, 0, 0),
		[]byte{1, 97, 3, 99, 111, 109, 0, 0, 1, 0, 1}, // at 12
		[]byte{192, 14, 0, 2, 0, 1},                   // at 23
		[]byte{1, 98, 192, 12, 0, 3, 0, 1},            // at 29
		[]byte{192, 29, 0, 4, 0, 1},                   // at 37
		[]byte{1, 98, 1, 97, 3, 67, 111, 109, 0, 0, 5, 0, 1})},
	{"each section", api.Message{
		Head:      api.Header{ID: 65535, AA: true, TC: true, Z: true, AD: true, Opcode: 15, Code: 15},
		Questions: []api.Question{{Name: []string{"a"}, Type: 1, Class: 1}},
		Answers:   []api.Record{{Name: []string{"a"}, Type: 1, Class: 1, TTL: 1, Data: []byte{1, 97, 0}}, {Name: []string{"b", "a"}, Type: 1}},
		Authority: []api.Record{{Name: []string{"b", "a"}, Type: 2, Data: []byte{5}}},
		More:      []api.Record{{Name: []string{"c", "b", "a"}, Type: 3}, {Type: 41}, {Name: []string{"c"}, Type: 4}},
	}, join([]byte{255, 255, 126, 111, 0, 1, 0, 2, 0, 1, 0, 3},
		[]byte{1, 97, 0, 0, 1, 0, 1},                            // at 12
		[]byte{192, 12, 0, 1, 0, 1, 0, 0, 0, 1, 0, 3, 1, 97, 0}, // at 19
		[]byte{1, 98, 192, 12, 0, 1, 0, 0, 0, 0, 0, 0, 0, 0},    // at 34
		[]byte{192, 34, 0, 2, 0, 0, 0, 0, 0, 0, 0, 1, 5},        // at 48
		[]byte{1, 99, 192, 34, 0, 3, 0, 0, 0, 0, 0, 0, 0, 0},    // at 61
		[]byte{0, 0, 41, 0, 0, 0, 0, 0, 0, 0, 0},                // at 75
		[]byte{1, 99, 0, 0, 4, 0, 0, 0, 0, 0, 0, 0, 0},          // at 86
	)},
}

func TestMG1Read(t *testing.T) {
	for _, c := range sent {
		if got, err := msg.Read(c.want); err != nil || !alike(got, c.m) {
			t.Errorf("%s: got %v, %v, want %v", c.what, got, err, c.m)
		}
	}
}

// TestMG1ReadPointers reads names that Write would not have so: by pointers to
// pointers, into Data, into the header, and to an end.
func TestMG1ReadPointers(t *testing.T) {
	b := join([]byte{1, 97, 0, 0}, counts(2, 1, 0, 1)[4:],
		[]byte{192, 0, 0, 1, 0, 1},                               // at 12: a, where the ID stands
		[]byte{1, 98, 192, 12, 0, 2, 0, 1},                       // at 18: b.a by two pointers
		[]byte{192, 2, 0, 3, 0, 1, 0, 0, 0, 0, 0, 3, 2, 99, 100}, // at 26: an end; Data begins a name
		[]byte{1, 101, 192, 3, 0, 4, 0, 1, 0, 0, 0, 0, 0, 0},
	)
	want := api.Message{
		Head:      api.Header{ID: 353},
		Questions: []api.Question{{Name: []string{"a"}, Type: 1, Class: 1}, {Name: []string{"b", "a"}, Type: 2, Class: 1}},
		Answers:   []api.Record{{Type: 3, Class: 1, Data: []byte{2, 99, 100}}},
		More:      []api.Record{{Name: []string{"e"}, Type: 4, Class: 1}},
	}
	if got, err := msg.Read(b); err != nil || !alike(got, want) {
		t.Errorf("got %v, %v, want %v", got, err, want)
	}
	in := join(counts(0, 2, 0, 0),
		[]byte{0, 0, 3, 0, 1, 0, 0, 0, 0, 0, 3, 1, 99, 0},
		[]byte{192, 23, 0, 4, 0, 1, 0, 0, 0, 0, 0, 0})
	want = api.Message{Answers: []api.Record{{Type: 3, Class: 1, Data: []byte{1, 99, 0}}, {Name: []string{"c"}, Type: 4, Class: 1}}}
	if got, err := msg.Read(in); err != nil || !alike(got, want) {
		t.Errorf("into Data: got %v, %v, want %v", got, err, want)
	}
}

// refused tells of bytes of which Read does not have an error alone.
func refused(t *testing.T, what string, b []byte, want api.Errno) {
	t.Helper()
	if got, err := msg.Read(b); plain.Told(err) != want || !none(got) {
		t.Errorf("%s: got %v, %v, want %v alone", what, got, err, want)
	}
}

// TestMG1ReadCut cuts each message behind each of its bytes; what is cut off
// stands in memory still. And it lays bytes behind it.
func TestMG1ReadCut(t *testing.T) {
	for _, c := range sent {
		for size := range c.want {
			refused(t, c.what, c.want[:size], api.ErrShort)
		}
		for _, more := range []int{1, 2, 11, 70000} {
			refused(t, c.what, join(c.want, make([]byte, more)), api.ErrExtra)
		}
	}
	refused(t, "no bytes", nil, api.ErrShort)
}

func TestMG1ReadErrors(t *testing.T) {
	question := []byte{0, 0, 1, 0, 1}
	record := make([]byte, 11)
	none := []byte{64} // a length of a label that is none
	loop := []byte{192, 200}
	most := slices.Repeat([]byte{1, 97}, 128)
	shortData := []byte{0, 0, 0, 0, 0, 0, 0, 0, 0, 0, 1}
	cases := []struct {
		what string
		b    []byte
		want api.Errno
	}{
		{"fewer than 12, and more parts than any", bytes.Repeat([]byte{255}, 11), api.ErrShort},
		{"counts alone", bytes.Repeat([]byte{255}, 12), api.ErrShort},
		{"a question that is not there", counts(1, 0, 0, 0), api.ErrShort},
		{"an answer that is not there", counts(0, 1, 0, 0), api.ErrShort},
		{"an authority that is not there", counts(0, 0, 1, 0), api.ErrShort},
		{"a more that is not there", counts(0, 0, 0, 1), api.ErrShort},
		{"256 questions, and one is there", join(counts(256, 0, 0, 0), question), api.ErrShort},
		{"one question, and two are there", join(counts(1, 0, 0, 0), question, question), api.ErrExtra},
		{"no section, and a record is there", join(counts(0, 0, 0, 0), record), api.ErrExtra},
		{"label of a question", join(counts(1, 0, 0, 0), none, question), api.ErrLabel},
		{"label of an answer", join(counts(0, 1, 0, 0), none, record), api.ErrLabel},
		{"label of an authority", join(counts(0, 0, 1, 0), none, record), api.ErrLabel},
		{"label of a more", join(counts(0, 0, 0, 1), none, record), api.ErrLabel},
		{"pointer of a question", join(counts(1, 0, 0, 0), loop, question), api.ErrPointer},
		{"pointer of a record", join(counts(0, 0, 1, 0), loop, record), api.ErrPointer},
		{"pointer of a question to itself", join(counts(1, 0, 0, 0), []byte{192, 12}, question), api.ErrPointer},
		{"long name of a question", join(counts(1, 0, 0, 0), most, question), api.ErrLong},
		{"long name of a record", join(counts(0, 0, 0, 1), most, record), api.ErrLong},
		{"Data that is not there", join(counts(0, 0, 0, 1), shortData), api.ErrShort},
		{"a question, then one with a label", join(counts(2, 0, 0, 0), question, none), api.ErrLabel},
		{"a record, then one with a pointer", join(counts(0, 2, 0, 0), record, loop), api.ErrPointer},
		{"label ahead of bytes behind", join(counts(1, 0, 0, 0), none, make([]byte, 100)), api.ErrLabel},
		{"question ahead of answer", join(counts(2, 1, 0, 0), question, most, none, loop), api.ErrLong},
		{"answer ahead of authority", join(counts(1, 1, 1, 0), question, none, loop), api.ErrLabel},
		{"authority ahead of more", join(counts(1, 1, 1, 1), question, record, loop, none), api.ErrPointer},
		{"more behind all", join(counts(1, 1, 1, 1), question, record, record, none), api.ErrLabel},
		{"too few bytes of an answer, where an authority is wrong", join(counts(0, 1, 1, 0), []byte{0, 0, 0, 0, 0, 0, 0, 0, 0, 0, 99}, none), api.ErrShort},
	}
	for _, c := range cases {
		refused(t, c.what, c.b, c.want)
	}
}

// TestMG1ReadMost reads as many parts as may be, in far more bytes than
// MaxBytes: the chapter has no bound of them for Read.
func TestMG1ReadMost(t *testing.T) {
	b := join(counts(65535, 65535, 65535, 65535),
		bytes.Repeat([]byte{0, 0, 1, 0, 2}, 65535),
		bytes.Repeat([]byte{0, 0, 3, 0, 4, 0, 0, 0, 5, 0, 1, 6}, 3*65535))
	got, err := msg.Read(b)
	if err != nil || len(got.Questions) != 65535 || len(got.Answers) != 65535 ||
		len(got.Authority) != 65535 || len(got.More) != 65535 {
		t.Fatalf("got %d, %d, %d, %d parts, %v", len(got.Questions), len(got.Answers), len(got.Authority), len(got.More), err)
	}
	last := api.Record{Type: 3, Class: 4, TTL: 5, Data: []byte{6}}
	if q := got.Questions[65534]; q.Type != 1 || q.Class != 2 || !alikeRecords(got.More[65534:], []api.Record{last}) {
		t.Errorf("the last ones are %v, %v", q, got.More[65534])
	}
	refused(t, "the last byte cut", b[:len(b)-1], api.ErrShort)
	refused(t, "a byte behind", append(b, 0), api.ErrExtra)
}

// reckon reads a message by sums, from one part to the next.
func reckon(b []byte) (api.Message, error) {
	if len(b) < 12 {
		return api.Message{}, api.ErrShort
	}
	h, _ := head.Read(b)
	m := api.Message{Head: h}
	pair := func(i int) int { return int(b[i])*256 + int(b[i+1]) }
	ends := []int{pair(4), pair(4) + pair(6), pair(4) + pair(6) + pair(8), pair(4) + pair(6) + pair(8) + pair(10)}
	at := 12
	for i := 0; i < ends[3]; i++ {
		n, next, err := wire.Read(b, at)
		if err == nil && i < ends[0] {
			if next+4 > len(b) {
				return api.Message{}, api.ErrShort
			}
			m.Questions = append(m.Questions, api.Question{Name: n, Type: pair(next), Class: pair(next + 2)})
			at = next + 4
			continue
		}
		r, next, err := rr.Read(b, at)
		if err != nil {
			return api.Message{}, err
		}
		switch {
		case i < ends[1]:
			m.Answers = append(m.Answers, r)
		case i < ends[2]:
			m.Authority = append(m.Authority, r)
		default:
			m.More = append(m.More, r)
		}
		at = next
	}
	if at != len(b) {
		return api.Message{}, api.ErrExtra
	}
	return m, nil
}

// TestMG1OfManyMessages reads messages of few kinds of bytes, so that names,
// pointers and counts come about wherever they can.
func TestMG1OfManyMessages(t *testing.T) {
	kinds := []byte{0, 0, 0, 0, 0, 0, 1, 2, 3, 64, 97, 192, 192, 255}
	told := map[api.Errno]int{}
	seed := uint32(1)
	next := func(below int) int {
		seed = seed*1664525 + 1013904223
		return int(seed>>16) % below
	}
	for range 300000 {
		b := counts(next(3), next(3), next(2), next(2))
		for range next(50) {
			b = append(b, kinds[next(len(kinds))])
		}
		want, wrong := reckon(b)
		got, err := msg.Read(b)
		if plain.Told(err) != plain.Told(wrong) || !alike(got, want) {
			t.Fatalf("Read(%d) gives %v, %v, want %v, %v", b, got, err, want, wrong)
		}
		told[plain.Told(err)]++
		if err != nil {
			continue
		}
		again, err := msg.Write(got)
		if err != nil {
			t.Fatalf("Write(%v): %v", got, err)
		}
		if back, err := msg.Read(again); err != nil || !alike(back, got) {
			t.Fatalf("%v is read as %v, %v", got, back, err)
		}
	}
	for _, e := range []api.Errno{api.OK, api.ErrShort, api.ErrLabel, api.ErrPointer, api.ErrExtra} {
		if told[e] < 100 {
			t.Errorf("%v was told only %d times", e, told[e])
		}
	}
}

func TestMG1IsFresh(t *testing.T) {
	last := sent[len(sent)-1]
	b := bytes.Clone(last.want)
	one, err := msg.Read(b)
	two, _ := msg.Read(b)
	if err != nil {
		t.Fatal(err)
	}
	for _, section := range [][]api.Record{one.Answers, one.Authority, one.More} {
		for _, r := range section {
			clear(r.Name[:cap(r.Name)])
			clear(r.Data[:cap(r.Data)])
		}
		// Lists that shared memory would write into each other here.
		_ = append(section, api.Record{Type: 77})
	}
	if !bytes.Equal(b, last.want) {
		t.Errorf("Read shares memory with what it was given: %d", b)
	}
	if len(one.Questions) != 1 || one.Questions[0].Name[0] != "a" || one.Answers[0].Type != 1 || one.Authority[0].Type != 2 || one.More[0].Type != 3 {
		t.Errorf("lists share memory: %v", one)
	}
	clear(b)
	if !alike(two, last.m) {
		t.Errorf("Read keeps what it was given, or what it gave: %v", two)
	}
}
