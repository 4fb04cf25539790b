package head_test

import (
	"bytes"
	"math"
	"slices"
	"testing"

	"pointsman/api"
	"pointsman/head"
	"pointsman/plain"
)

// each has one header for each field of its own, with its bytes as the
// chapter's numbers have them.
var each = []struct {
	name string
	head api.Header
	sent []byte
}{
	{"nothing", api.Header{}, []byte{0, 0, 0, 0}},
	{"ID's low byte", api.Header{ID: 1}, []byte{0, 1, 0, 0}},
	{"ID's high byte", api.Header{ID: 256}, []byte{1, 0, 0, 0}},
	{"ID", api.Header{ID: 258}, []byte{1, 2, 0, 0}},
	{"greatest ID", api.Header{ID: 65535}, []byte{255, 255, 0, 0}},
	{"Answer", api.Header{Answer: true}, []byte{0, 0, 128, 0}},
	{"Opcode", api.Header{Opcode: 1}, []byte{0, 0, 8, 0}},
	{"greatest Opcode", api.Header{Opcode: 15}, []byte{0, 0, 120, 0}},
	{"AA", api.Header{AA: true}, []byte{0, 0, 4, 0}},
	{"TC", api.Header{TC: true}, []byte{0, 0, 2, 0}},
	{"RD", api.Header{RD: true}, []byte{0, 0, 1, 0}},
	{"RA", api.Header{RA: true}, []byte{0, 0, 0, 128}},
	{"Z", api.Header{Z: true}, []byte{0, 0, 0, 64}},
	{"AD", api.Header{AD: true}, []byte{0, 0, 0, 32}},
	{"CD", api.Header{CD: true}, []byte{0, 0, 0, 16}},
	{"Code", api.Header{Code: 1}, []byte{0, 0, 0, 1}},
	{"greatest Code", api.Header{Code: 15}, []byte{0, 0, 0, 15}},
	{"some", api.Header{ID: 258, Answer: true, Opcode: 2, RD: true, RA: true, CD: true, Code: 3}, []byte{1, 2, 145, 147}},
	{"all", api.Header{ID: 65535, Answer: true, Opcode: 15, AA: true, TC: true, RD: true,
		RA: true, Z: true, AD: true, CD: true, Code: 15}, []byte{255, 255, 255, 255}},
}

func TestHE1Write(t *testing.T) {
	for _, c := range each {
		if got, err := head.Write(c.head); err != nil || !bytes.Equal(got, c.sent) {
			t.Errorf("%s: Write gives %v, %v, want %v", c.name, got, err, c.sent)
		}
	}
}

func TestHE1Read(t *testing.T) {
	for _, c := range each {
		if got, err := head.Read(c.sent); err != nil || got != c.head {
			t.Errorf("%s: Read gives %v, %v, want %v", c.name, got, err, c.head)
		}
	}
}

func TestHE1WriteRange(t *testing.T) {
	full := api.Header{Answer: true, AA: true, TC: true, RD: true, RA: true, Z: true, AD: true, CD: true}
	for _, n := range []int{math.MinInt, -1 << 32, -65536, -16, -1, 65536, 1 << 32, math.MaxInt} {
		for _, h := range []api.Header{{ID: n}, {Opcode: n}, {Code: n}, {ID: n, Opcode: n, Code: n}} {
			wrong(t, h)
		}
		h := full
		h.ID = n
		wrong(t, h)
	}
	for _, n := range []int{16, 17, 255, 256, 65535} {
		wrong(t, api.Header{Opcode: n})
		wrong(t, api.Header{Code: n})
		wrong(t, api.Header{ID: 65535, Opcode: 15, Code: n})
		wrong(t, api.Header{ID: 65535, Opcode: n, Code: 15})
	}
}

// wrong tells of a header that Write does not refuse.
func wrong(t *testing.T, h api.Header) {
	t.Helper()
	if got, err := head.Write(h); plain.Told(err) != api.ErrRange || len(got) != 0 {
		t.Errorf("Write(%+v) gives %v, %v, want ErrRange alone", h, got, err)
	}
}

func TestHE1ReadShort(t *testing.T) {
	for _, b := range [][]byte{nil, {}, {255}, {255, 255}, {255, 255, 255}} {
		if got, err := head.Read(b); plain.Told(err) != api.ErrShort || got != (api.Header{}) {
			t.Errorf("Read(%v) gives %+v, %v, want ErrShort alone", b, got, err)
		}
	}
	full := []byte{255, 255, 255, 255}
	if got, err := head.Read(full[:3]); plain.Told(err) != api.ErrShort || got != (api.Header{}) {
		t.Errorf("Read of three bytes with one behind them gives %+v, %v, want ErrShort alone", got, err)
	}
}

// TestHE1ReadMore: what stands behind the first four bytes says nothing.
func TestHE1ReadMore(t *testing.T) {
	for _, more := range [][]byte{{0}, {255}, {255, 255, 255, 255, 255, 255, 255, 255}, make([]byte, 70000)} {
		b := append([]byte{1, 2, 145, 147}, more...)
		want := api.Header{ID: 258, Answer: true, Opcode: 2, RD: true, RA: true, CD: true, Code: 3}
		if got, err := head.Read(b); err != nil || got != want {
			t.Errorf("Read with %d bytes behind gives %+v, %v, want %+v", len(more), got, err, want)
		}
	}
}

// reckon tells the header of two words by sums, as the chapter's numbers are.
func reckon(id, word int) api.Header {
	has := func(weight int) bool { return word/weight%2 == 1 }
	return api.Header{
		ID: id, Answer: has(128 * 256), Opcode: word / (8 * 256) % 16,
		AA: has(4 * 256), TC: has(2 * 256), RD: has(256),
		RA: has(128), Z: has(64), AD: has(32), CD: has(16), Code: word % 16,
	}
}

// TestHE1All: every header there is of an ID, and every ID, is written and
// read as it is reckoned.
func TestHE1All(t *testing.T) {
	try := func(id, word int) {
		want := []byte{byte(id / 256), byte(id % 256), byte(word / 256), byte(word % 256)}
		h, err := head.Read(want)
		if err != nil || h != reckon(id, word) {
			t.Fatalf("Read(%v) gives %+v, %v, want %+v", want, h, err, reckon(id, word))
		}
		if got, err := head.Write(h); err != nil || !bytes.Equal(got, want) {
			t.Fatalf("Write(%+v) gives %v, %v, want %v", h, got, err, want)
		}
	}
	for n := range 65536 {
		try(4660, n)
		try(n, 0)
		try(n, n)
	}
}

// TestHE1Memory: what Write gives is fresh each time, and Read leaves what it
// is handed as it is.
func TestHE1Memory(t *testing.T) {
	h := api.Header{ID: 258, Answer: true, Code: 3}
	one, _ := head.Write(h)
	clear(one[:cap(one)])
	if two, _ := head.Write(h); !bytes.Equal(two, []byte{1, 2, 128, 3}) {
		t.Errorf("Write gives %v after an earlier answer is written over", two)
	}
	b := []byte{1, 2, 145, 147, 5}
	was := slices.Clone(b)
	if _, err := head.Read(b); err != nil || !bytes.Equal(b, was) {
		t.Errorf("Read leaves %v of %v, %v", b, was, err)
	}
}
