package fresh_test

import (
	"reflect"
	"testing"

	"pointsman/api"
	"pointsman/fresh"
)

// whole makes a message with all its fields and lists, whose lists are longer
// in memory than they tell, and stand in it more than once.
func whole() api.Message {
	labels := []string{"a", "B", "", "behind"}
	data := []byte{1, 2, 3, 99}
	records := []api.Record{
		{Name: labels[:3], Type: 1, Class: 2, TTL: 3, Data: data[:3]},
		{Name: labels[:1], Type: -1, Class: 1 << 40, TTL: -5, Data: data[:1]},
		{Type: 77},
	}
	questions := []api.Question{{Name: labels[:2], Type: 4, Class: 5}, {Name: labels[:2], Type: -6}, {Type: 88}}
	return api.Message{
		Head:      api.Header{ID: 7, Answer: true, Opcode: 2, AA: true, TC: true, RD: true, RA: true, Z: true, AD: true, CD: true, Code: 3},
		Questions: questions[:2],
		Answers:   records[:2],
		Authority: records[1:2],
		More:      records[:2],
	}
}

// memory goes through the places of all lists within a value, the room behind
// them too, and tells of each that another list has.
func memory(v reflect.Value, at map[uintptr]string, what string, twice func(string, string)) {
	switch v.Kind() {
	case reflect.Struct:
		for i := range v.NumField() {
			memory(v.Field(i), at, what+"."+v.Type().Field(i).Name, twice)
		}
	case reflect.Slice:
		size := int(v.Type().Elem().Size())
		for i := range v.Cap() {
			place := v.Pointer() + uintptr(i*size)
			if other, ok := at[place]; ok && other != what {
				twice(other, what)
			}
			at[place] = what
		}
		for i := range v.Len() {
			memory(v.Index(i), at, what+"["+string(rune('0'+i))+"]", twice)
		}
	}
}

func TestMessage(t *testing.T) {
	got, want := fresh.Message(whole()), whole()
	if !reflect.DeepEqual(got, want) {
		t.Errorf("got %v, want %v", got, want)
	}
	if got := fresh.Message(api.Message{}); !reflect.DeepEqual(got, api.Message{}) {
		t.Errorf("of nothing: got %v", got)
	}
}

func TestMessageSharesNothing(t *testing.T) {
	m := whole()
	got := fresh.Message(m)
	at := map[uintptr]string{}
	memory(reflect.ValueOf(m), at, "argument", func(string, string) {})
	memory(reflect.ValueOf(got), at, "answer", func(one, two string) {
		t.Errorf("%s and %s share memory", one, two)
	})
	if !reflect.DeepEqual(m, whole()) || m.More[:3][2].Type != 77 || m.Questions[:3][2].Type != 88 {
		t.Errorf("what was handed in is changed: %v", m)
	}
}

// node makes a node of a rule whose lists are longer in memory than they tell.
func node() api.Match {
	labels := []string{"a", "B", "behind"}
	addr := []byte{1, 2, 3, 99}
	return api.Match{Op: 4, N: -5, Name: labels[:2], Addr: addr[:3]}
}

func TestMatch(t *testing.T) {
	if got := fresh.Match(node()); !reflect.DeepEqual(got, node()) {
		t.Errorf("got %v, want %v", got, node())
	}
	if got := fresh.Match(api.Match{}); !reflect.DeepEqual(got, api.Match{}) {
		t.Errorf("of nothing: got %v", got)
	}
}

func TestMatchSharesNothing(t *testing.T) {
	m := node()
	got := fresh.Match(m)
	at := map[uintptr]string{}
	memory(reflect.ValueOf(m), at, "argument", func(string, string) {})
	memory(reflect.ValueOf(got), at, "answer", func(one, two string) {
		t.Errorf("%s and %s share memory", one, two)
	})
	if !reflect.DeepEqual(m, node()) || m.Name[:3][2] != "behind" || m.Addr[:4][3] != 99 {
		t.Errorf("what was handed in is changed: %v", m)
	}
}
