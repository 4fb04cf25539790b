// Package number has numbers as they are sent: in some bytes, the highest one
// first. The layers that send numbers share it, so that they can't differ.
package number

// The greatest numbers of one, two and four bytes.
const (
	MaxOne  = 1<<8 - 1
	MaxTwo  = 1<<16 - 1
	MaxFour = 1<<32 - 1
)

// Of tells the number of some bytes.
func Of(b []byte) int {
	n := 0
	for _, c := range b {
		n = n<<8 | int(c)
	}
	return n
}

// AppendTwo takes a number's lowest two bytes; what is above them is dropped.
func AppendTwo(b []byte, n int) []byte {
	return append(b, byte(n>>8), byte(n))
}

// AppendFour takes a number's lowest four bytes; what is above them is dropped.
func AppendFour(b []byte, n int) []byte {
	return AppendTwo(AppendTwo(b, n>>16), n)
}

// Fits tells if a number is from 0 to the greatest one.
func Fits(n, most int) bool { return n >= 0 && n <= most }
