package msg

import (
	"pointsman/api"
	"pointsman/head"
	"pointsman/number"
	"pointsman/rr"
	"pointsman/wire"
)

// draft is a message as far as it is written.
type draft struct {
	sent []byte
	// By a name as it is sent without pointers, where it begins. Pack goes
	// through all the starts that it is handed; by this one it is handed the
	// one alone that it would take, so that many names don't cost their square.
	places map[string]int
	full   bool // it is too long, and nothing of it is kept
}

// Write tells a message's bytes.
func Write(m api.Message) ([]byte, error) {
	d, err := begin(m)
	if err != nil {
		return nil, err
	}
	for _, q := range m.Questions {
		if err := d.addQuestion(q); err != nil {
			return nil, err
		}
	}
	for _, section := range records(&m) {
		for _, r := range *section {
			if err := d.addRecord(r); err != nil {
				return nil, err
			}
		}
	}
	if d.full {
		return nil, api.ErrFull
	}
	return d.sent, nil
}

// begin tells the draft with all that stands ahead of the parts.
func begin(m api.Message) (*draft, error) {
	sent, err := head.Write(m.Head)
	if err != nil {
		return nil, err
	}
	for _, count := range [4]int{len(m.Questions), len(m.Answers), len(m.Authority), len(m.More)} {
		if count > number.MaxTwo {
			return nil, api.ErrFull
		}
		sent = number.AppendTwo(sent, count)
	}
	return &draft{sent: sent, places: map[string]int{}}, nil
}

func (d *draft) addQuestion(q api.Question) error {
	ends, err := endsOf(q.Name)
	if err != nil {
		return err
	}
	starts := d.startsFor(ends)
	sent, told, err := wire.Pack(d.sent, starts, q.Name)
	if err != nil {
		return err
	}
	if !number.Fits(q.Type, number.MaxTwo) || !number.Fits(q.Class, number.MaxTwo) {
		return api.ErrRange
	}
	sent = number.AppendTwo(sent, q.Type)
	sent = number.AppendTwo(sent, q.Class)
	d.keep(sent, ends, told[len(starts):])
	return nil
}

func (d *draft) addRecord(r api.Record) error {
	ends, err := endsOf(r.Name)
	if err != nil {
		return err
	}
	starts := d.startsFor(ends)
	sent, told, err := rr.Write(d.sent, starts, r)
	if err != nil {
		return err
	}
	d.keep(sent, ends, told[len(starts):])
	return nil
}

// startsFor tells the start at which the most of a name's last labels stand,
// if there is one. No two starts have the same labels, since those that stand
// at one already are not written again.
func (d *draft) startsFor(ends []string) []int {
	for _, end := range ends {
		if place, ok := d.places[end]; ok {
			return []int{place}
		}
	}
	return nil
}

// keep takes a part over, with the places of the labels of its name that were
// written: the first ones of them.
func (d *draft) keep(sent []byte, ends []string, places []int) {
	// What is wrong with a part is told ahead of a message that is too long,
	// so that the parts behind must be looked at too; but what they are
	// written behind is nothing to them.
	if d.full || len(sent) > api.MaxBytes {
		*d = draft{full: true}
		return
	}
	d.sent = sent
	for i, place := range places {
		d.places[ends[i]] = place
	}
}

// endsOf tells a name from each of its labels on, as it is sent.
func endsOf(n []string) ([]string, error) {
	sent, err := wire.Write(nil, n)
	if err != nil {
		return nil, err
	}
	whole := string(sent)
	ends := make([]string, len(n))
	at := 0
	for i, label := range n {
		ends[i] = whole[at:]
		at += 1 + len(label)
	}
	return ends, nil
}
