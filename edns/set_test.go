package edns_test

import (
	"bytes"
	"math"
	"reflect"
	"slices"
	"testing"

	"pointsman/api"
	"pointsman/edns"
	"pointsman/msg"
	"pointsman/plain"
)

func alikeRecords(a, b []api.Record) bool {
	return slices.EqualFunc(a, b, func(x, y api.Record) bool {
		return slices.Equal(x.Name, y.Name) && x.Type == y.Type && x.Class == y.Class &&
			x.TTL == y.TTL && bytes.Equal(x.Data, y.Data)
	})
}

// alike tells if two messages are the same; an empty list and nil are.
func alike(a, b api.Message) bool {
	return a.Head == b.Head &&
		slices.EqualFunc(a.Questions, b.Questions, func(x, y api.Question) bool {
			return slices.Equal(x.Name, y.Name) && x.Type == y.Type && x.Class == y.Class
		}) &&
		alikeRecords(a.Answers, b.Answers) && alikeRecords(a.Authority, b.Authority) && alikeRecords(a.More, b.More)
}

// whole makes a message with all its fields and lists. What is wrong with it
// is nothing to Set and Drop: names that are none, numbers that are too great,
// records of Type 41 elsewhere. Its lists are longer in memory than they tell,
// and stand in it more than once.
func whole(more ...api.Record) api.Message {
	labels := []string{"a", "B", "", "behind"}
	data := []byte{1, 2, 3, 99}
	records := []api.Record{
		{Name: labels[:3], Type: 41, Class: -2, TTL: 1 << 40, Data: data[:3]},
		{Type: 41, Class: 512},
		{Name: labels[:1], Type: 1, Class: 1, TTL: 3, Data: data[:1]},
		{Type: 77},
	}
	questions := []api.Question{{Name: labels[:2], Type: 41, Class: 5}, {Name: labels[:2], Type: -6}, {Type: 88}}
	return api.Message{
		Head:      api.Header{ID: 1 << 20, Answer: true, Opcode: 2, AA: true, TC: true, RD: true, RA: true, Z: true, AD: true, CD: true, Code: 3},
		Questions: questions[:2],
		Answers:   records[:3],
		Authority: records[1:3],
		More:      append(more[:len(more):len(more)], api.Record{Type: 66})[:len(more)],
	}
}

// Records that are no such one, and such ones, right and wrong.
func others() (a, b, c api.Record) {
	return api.Record{Name: []string{"a"}, Type: 1, Class: -1, TTL: 9, Data: []byte{1}},
		api.Record{Type: 40, Class: 41, TTL: 41, Data: []byte{41}},
		api.Record{Name: []string{"", long}, Type: 65577, TTL: -1}
}

const long = "a label that is far too long to be one, and is nothing to Set and to Drop, which look at Types alone"

func opts() (right, wrong api.Record) {
	return api.Record{Type: 41, Class: 512, TTL: 7, Data: []byte{0, 1, 0, 0}},
		api.Record{Name: []string{"a"}, Type: 41, Class: -1, TTL: -1, Data: []byte{1}}
}

// lists has lists of records, each with what stays of it.
func lists() []struct{ more, stay []api.Record } {
	a, b, c := others()
	right, wrong := opts()
	return []struct{ more, stay []api.Record }{
		{nil, nil},
		{[]api.Record{right}, nil},
		{[]api.Record{wrong}, nil},
		{[]api.Record{right, wrong, right}, nil},
		{[]api.Record{a}, []api.Record{a}},
		{[]api.Record{a, b, c, a}, []api.Record{a, b, c, a}},
		{[]api.Record{right, a}, []api.Record{a}},
		{[]api.Record{a, right}, []api.Record{a}},
		{[]api.Record{c, wrong, a, right, b}, []api.Record{c, a, b}},
		{[]api.Record{right, wrong, b, right, right, a, wrong, wrong}, []api.Record{b, a}},
	}
}

func TestED2Drop(t *testing.T) {
	for i, c := range lists() {
		if got := edns.Drop(of(c.more...)); !alike(got, of(c.stay...)) {
			t.Errorf("list %d: got %v, want %v", i, got, c.stay)
		}
		if got, want := edns.Drop(whole(c.more...)), whole(c.stay...); !alike(got, want) {
			t.Errorf("list %d in a whole message: got %v, want %v", i, got, want)
		}
	}
}

func TestED2Set(t *testing.T) {
	for _, p := range pairs {
		for i, c := range lists() {
			want := whole(slices.Concat(c.stay, []api.Record{p.r})...)
			if got, err := edns.Set(whole(c.more...), p.o); err != nil || !alike(got, want) {
				t.Errorf("%s, list %d: got %v, %v, want %v", p.what, i, got.More, err, want.More)
			}
		}
	}
}

// unset tells of what Set does not have an error of alone.
func unset(t *testing.T, what string, o api.Opt, want api.Errno) {
	t.Helper()
	for _, m := range []api.Message{{}, whole(), whole(pairs[1].r)} {
		if got, err := edns.Set(m, o); plain.Told(err) != want || !alike(got, api.Message{}) {
			t.Errorf("%s: got %v, %v, want %v alone", what, got, err, want)
		}
	}
}

func TestED2Range(t *testing.T) {
	for _, most := range []int{255, 32767, 65535} {
		for _, n := range []int{math.MinInt, -most - 1, -1, most + 1, 1 << 32, math.MaxInt} {
			switch most {
			case 255:
				unset(t, "Code", api.Opt{Code: n}, api.ErrRange)
				unset(t, "Version", api.Opt{Version: n}, api.ErrRange)
			case 32767:
				unset(t, "Z", api.Opt{Z: n}, api.ErrRange)
			case 65535:
				unset(t, "Size", api.Opt{Size: n}, api.ErrRange)
				unset(t, "option's Code", api.Opt{Options: []api.Option{{Code: n}}}, api.ErrRange)
				unset(t, "the last option's Code", api.Opt{Options: []api.Option{{}, {Code: 1}, {Code: n}}}, api.ErrRange)
			}
		}
	}
}

// TestED2Errors asks which error is told where there are several.
func TestED2Errors(t *testing.T) {
	fits, most, over := some(65531), some(65535), some(65536)
	cases := []struct {
		what    string
		options []api.Option
		want    api.Errno
	}{
		{"one byte too many for the record", []api.Option{{Data: some(65532)}}, api.ErrFull},
		{"the most that an option may have", []api.Option{{Data: most}}, api.ErrFull},
		{"more than an option may have", []api.Option{{Data: over}}, api.ErrFull},
		{"an option behind a full record", []api.Option{{Data: fits}, {}}, api.ErrFull},
		{"an option ahead of it", []api.Option{{}, {Data: fits}}, api.ErrFull},
		{"two halves", []api.Option{{Data: some(32764)}, {Data: some(32764)}}, api.ErrFull},
		{"one option too many", make([]api.Option, 16384), api.ErrFull},
		{"Code and Data of one", []api.Option{{Code: -1, Data: over}}, api.ErrRange},
		{"Data, and Code of the next", []api.Option{{Data: over}, {Code: -1}}, api.ErrFull},
		{"Code, and Data of the next", []api.Option{{Code: -1}, {Data: over}}, api.ErrRange},
		{"Code behind a record that is full", []api.Option{{Data: most}, {Code: 65536}}, api.ErrRange},
		{"Code behind too many", append(make([]api.Option, 20000), api.Option{Code: -1}), api.ErrRange},
		{"Data behind a record that is full", []api.Option{{Data: most}, {Data: over}, {Code: 65536}}, api.ErrFull},
	}
	for _, c := range cases {
		unset(t, c.what, api.Opt{Options: c.options}, c.want)
		unset(t, c.what+", and Size", api.Opt{Size: -1, Options: c.options}, api.ErrRange)
		unset(t, c.what+", and Code", api.Opt{Code: 256, Options: c.options}, api.ErrRange)
		unset(t, c.what+", and Version", api.Opt{Version: 256, Options: c.options}, api.ErrRange)
		unset(t, c.what+", and Z", api.Opt{Z: 32768, Options: c.options}, api.ErrRange)
	}
}

// TestED2ManyOptions sets options that have the same Data: of too many of them
// no bytes are made.
func TestED2ManyOptions(t *testing.T) {
	many := slices.Repeat([]api.Option{{Data: some(65535)}}, 1<<20)
	unset(t, "many", api.Opt{Options: many}, api.ErrFull)
	many[len(many)-1].Code = -1
	unset(t, "many, the last one wrong", api.Opt{Options: many}, api.ErrRange)
}

// TestED2IsFound holds Set, Drop and Find against each other, and against what
// is sent.
func TestED2IsFound(t *testing.T) {
	seed := uint32(2)
	below := func(n int) int {
		seed = seed*1664525 + 1013904223
		return int(seed>>16) % n
	}
	a, b, _ := others()
	a.Class = 1
	right, wrong := opts()
	for range 20000 {
		m := api.Message{Questions: []api.Question{{Name: []string{"a"}, Type: 1, Class: 1}}}
		for range below(5) {
			m.More = append(m.More, []api.Record{a, b, right, wrong}[below(4)])
		}
		o := api.Opt{Size: below(65536), Code: below(256), Version: below(256), Do: below(2) == 0, Z: below(32768)}
		for range below(4) {
			o.Options = append(o.Options, api.Option{Code: below(65536), Data: some(below(20))})
		}
		set, err := edns.Set(m, o)
		if err != nil {
			t.Fatalf("%v: %v", o, err)
		}
		if got, is, err := edns.Find(set); err != nil || !is || !alikeOpts(got, o) {
			t.Fatalf("found %v, %v, %v, set %v", got, is, err, o)
		}
		if _, is, err := edns.Find(edns.Drop(set)); err != nil || is || !alike(edns.Drop(set), edns.Drop(m)) {
			t.Fatalf("%v: dropped, it is %v, %v", set, is, err)
		}
		sent, err := msg.Write(set)
		if err != nil {
			t.Fatalf("%v: %v", set, err)
		}
		if back, err := msg.Read(sent); err != nil || !alike(back, set) {
			t.Fatalf("%v: read as %v, %v", set, back, err)
		}
	}
}

// memory goes through the places of all lists within a value, the room behind
// them too, and tells of each that another list has.
func memory(v reflect.Value, at map[uintptr]string, what string, twice func(string, string)) {
	switch v.Kind() {
	case reflect.Struct:
		for i := range v.NumField() {
			memory(v.Field(i), at, what+"."+v.Type().Field(i).Name, twice)
		}
	case reflect.Slice:
		size := int(v.Type().Elem().Size())
		for i := range v.Cap() {
			place := v.Pointer() + uintptr(i*size)
			if other, ok := at[place]; ok && other != what {
				twice(other, what)
			}
			at[place] = what
		}
		for i := range v.Len() {
			memory(v.Index(i), at, what+"["+string(rune('0'+i))+"]", twice)
		}
	}
}

func TestED2IsFresh(t *testing.T) {
	a, b, c := others()
	right, wrong := opts()
	given := func() (api.Message, api.Opt) {
		data := []byte{1, 2, 99}
		options := []api.Option{{Code: 1, Data: data[:2]}, {Code: 2, Data: data[:2]}, {Code: 55, Data: data}}
		return whole(a, right, b, a, wrong, c), api.Opt{Size: 1, Options: options[:2]}
	}
	m, o := given()
	set, err := edns.Set(m, o)
	dropped := edns.Drop(m)
	if err != nil {
		t.Fatal(err)
	}
	at := map[uintptr]string{}
	memory(reflect.ValueOf(m), at, "message", func(string, string) {})
	memory(reflect.ValueOf(o), at, "opt", func(string, string) {})
	shared := func(one, two string) { t.Errorf("%s and %s share memory", one, two) }
	memory(reflect.ValueOf(set), at, "Set", shared)
	memory(reflect.ValueOf(dropped), at, "Drop", shared)
	m.More = m.More[:7]
	o.Options = o.Options[:3]
	wantM, wantO := given()
	wantM.More = wantM.More[:7]
	wantO.Options = wantO.Options[:3]
	if !alike(m, wantM) || !alikeOpts(o, wantO) || m.Answers[:4][3].Type != 77 || m.Questions[:3][2].Type != 88 {
		t.Errorf("what was handed in is changed: %v, %v", m, o)
	}
}
