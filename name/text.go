package name

import "pointsman/api"

// No byte of a name takes more than four of its text: \ and three digits.
const maxText = 4 * api.MaxName

// Text tells a name as a text.
func Text(n []string) (string, error) {
	if err := Check(n); err != nil {
		return "", err
	}
	if len(n) == 0 {
		return ".", nil
	}
	var text []byte
	for _, label := range n {
		for i := range len(label) {
			text = appendByte(text, label[i])
		}
		text = append(text, '.')
	}
	return string(text), nil
}

// Read tells the name of a text.
func Read(s string) ([]string, error) {
	if s == "." {
		return nil, nil
	}
	// Asked first, so that a text of any length costs no more than a name's.
	if len(s) > maxText {
		return nil, api.ErrSyntax
	}
	n := split(s)
	// Many a text could be taken for this name, but one alone is its Text.
	if text, err := Text(n); err != nil || text != s {
		return nil, api.ErrSyntax
	}
	return n, nil
}

func appendByte(text []byte, c byte) []byte {
	switch {
	case c == '.' || c == '\\':
		return append(text, '\\', c)
	case c < 33 || c > 126:
		return append(text, '\\', '0'+c/100, '0'+c/10%10, '0'+c%10)
	}
	return append(text, c)
}

// split tells the labels of a text that is some name's Text. Of any other text
// it tells some labels: Read holds their Text against it.
func split(s string) []string {
	var labels []string
	var label []byte
	for len(s) > 0 {
		c, size := firstByte(s)
		if s[0] == '.' {
			labels = append(labels, string(label))
			label = label[:0]
		} else {
			label = append(label, c)
		}
		s = s[size:]
	}
	return labels
}

// firstByte tells the byte of a label that a text, not an empty one, begins
// with, and how many bytes of the text stand for it.
func firstByte(s string) (byte, int) {
	switch {
	case s[0] != '\\' || len(s) == 1:
		return s[0], 1
	case len(s) >= 4 && isDigit(s[1]):
		return (s[1]-'0')*100 + (s[2]-'0')*10 + (s[3] - '0'), 4
	}
	return s[1], 2
}

func isDigit(c byte) bool {
	return '0' <= c && c <= '9'
}
