package wire

import (
	"slices"

	"pointsman/name"
)

// Write tells a message with a name behind it.
func Write(msg []byte, n []string) ([]byte, error) {
	if err := name.Check(n); err != nil {
		return nil, err
	}
	sent := slices.Clone(msg)
	for _, label := range n {
		sent = appendLabel(sent, label)
	}
	return append(sent, 0), nil
}

// Pack tells a message with a name behind it, and where names begin in it.
func Pack(msg []byte, starts []int, n []string) ([]byte, []int, error) {
	if err := name.Check(n); err != nil {
		return nil, nil, err
	}
	told, count, to := look(msg, starts, n)
	sent := slices.Clone(msg)
	for _, label := range n[:len(n)-count] {
		if len(sent) <= maxPlace {
			told = append(told, len(sent))
		}
		sent = appendLabel(sent, label)
	}
	if count == 0 {
		return append(sent, 0), told, nil
	}
	return append(sent, pointer|byte(to>>8), byte(to)), told, nil
}

// look tells the starts at which a name is read, and how many of the last
// labels of n stand at one of them, and at which.
func look(msg []byte, starts []int, n []string) (told []int, count, to int) {
	for _, start := range starts {
		there, _, err := Read(msg, start)
		if err != nil {
			continue
		}
		told = append(told, start)
		if start <= maxPlace && len(there) > count && endsWith(n, there) {
			count, to = len(there), start
		}
	}
	return told, count, to
}

// endsWith asks byte for byte, not folded: a pointer is to give back the
// letters that were written.
func endsWith(n, end []string) bool {
	more := len(n) - len(end)
	return more >= 0 && slices.Equal(n[more:], end)
}

func appendLabel(msg []byte, label string) []byte {
	return append(append(msg, byte(len(label))), label...)
}
