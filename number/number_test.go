package number_test

import (
	"bytes"
	"math"
	"testing"

	"pointsman/number"
)

func TestOf(t *testing.T) {
	cases := []struct {
		in   []byte
		want int
	}{
		{nil, 0},
		{[]byte{0}, 0},
		{[]byte{255}, number.MaxOne},
		{[]byte{1, 2}, 258},
		{[]byte{255, 255}, number.MaxTwo},
		{[]byte{5, 6, 7, 8}, 84281096},
		{[]byte{128, 0, 0, 0}, 1 << 31},
		{[]byte{255, 255, 255, 255}, number.MaxFour},
	}
	for _, c := range cases {
		if got := number.Of(c.in); got != c.want {
			t.Errorf("Of(%d): got %d, want %d", c.in, got, c.want)
		}
	}
}

func TestAppendTwo(t *testing.T) {
	for n := range number.MaxTwo + 1 {
		got := number.AppendTwo([]byte{7}, n)
		if !bytes.Equal(got, []byte{7, byte(n / 256), byte(n % 256)}) || number.Of(got[1:]) != n {
			t.Fatalf("AppendTwo of %d: got %d", n, got)
		}
	}
	if got := number.AppendTwo(nil, 0x1020304); !bytes.Equal(got, []byte{3, 4}) {
		t.Errorf("AppendTwo of a greater number: got %d", got)
	}
}

func TestAppendFour(t *testing.T) {
	for _, n := range []int{0, 1, 255, 256, 65535, 65536, 0x1020304, 1 << 31, number.MaxFour} {
		got := number.AppendFour([]byte{7}, n)
		want := []byte{7, byte(n >> 24), byte(n >> 16), byte(n >> 8), byte(n)}
		if !bytes.Equal(got, want) || number.Of(got[1:]) != n {
			t.Errorf("AppendFour of %d: got %d", n, got)
		}
	}
	if got := number.AppendFour(nil, 0x102030405060708); !bytes.Equal(got, []byte{5, 6, 7, 8}) {
		t.Errorf("AppendFour of a greater number: got %d", got)
	}
	if got := number.AppendFour(nil, -2); !bytes.Equal(got, []byte{255, 255, 255, 254}) {
		t.Errorf("AppendFour of a number below 0: got %d", got)
	}
}

func TestFits(t *testing.T) {
	for _, most := range []int{0, 15, number.MaxOne, number.MaxTwo, number.MaxFour} {
		for _, n := range []int{math.MinInt, -1, most + 1, math.MaxInt} {
			if number.Fits(n, most) {
				t.Errorf("%d fits, and %d is the greatest", n, most)
			}
		}
		for _, n := range []int{0, most / 2, most} {
			if !number.Fits(n, most) {
				t.Errorf("%d does not fit, and %d is the greatest", n, most)
			}
		}
	}
}
