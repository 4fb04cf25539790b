package bucket_test

import (
	"math"
	"testing"

	"pointsman/api"
	"pointsman/bucket"
	"pointsman/plain"
)

const most = api.MaxTick

// outside are numbers that are not from 0 to MaxTick. Some of them would be, if
// they were cut to 32 bits.
var outside = []int{-1, -2, -most, math.MinInt32, math.MinInt, most + 1, 1 << 32, 1<<32 + 5, 1 << 62, math.MaxInt}

// numbers makes a source of numbers below others, the same each time.
func numbers(seed uint32) func(int) int {
	return func(n int) int {
		seed = seed*1664525 + 1013904223
		return int(seed>>16) % n
	}
}

// answer is what Take tells.
type answer struct {
	b   api.Bucket
	is  bool
	err api.Errno
}

// holdCheck holds what Check tells against what it is to tell.
func holdCheck(t *testing.T, b api.Bucket, want api.Errno) {
	t.Helper()
	if got := plain.Told(bucket.Check(b)); got != want {
		t.Errorf("Check(%v): got %v, want %v", b, got, want)
	}
}

// holdFill holds what Fill tells against what it is to tell.
func holdFill(t *testing.T, b api.Bucket, now int, want api.Bucket, wrong api.Errno) {
	t.Helper()
	got, err := bucket.Fill(b, now)
	if got != want || plain.Told(err) != wrong {
		t.Errorf("Fill(%v, %d): got %v, %v, want %v, %v", b, now, got, plain.Told(err), want, wrong)
	}
}

// holdTake holds what Take tells against what it is to tell.
func holdTake(t *testing.T, b api.Bucket, now, n int, want answer) {
	t.Helper()
	told, is, err := bucket.Take(b, now, n)
	if got := (answer{told, is, plain.Told(err)}); got != want {
		t.Errorf("Take(%v, %d, %d): got %v, want %v", b, now, n, got, want)
	}
}

// holdNone holds Fill and Take against ErrRange, and an empty bucket.
func holdNone(t *testing.T, b api.Bucket, now int) {
	t.Helper()
	holdFill(t, b, now, api.Bucket{}, api.ErrRange)
	for _, n := range []int{-1, 0, 1, math.MaxInt} {
		holdTake(t, b, now, n, answer{err: api.ErrRange})
	}
}

// whole are buckets of which nothing is wrong, with the edges of each number.
func whole() []api.Bucket {
	var list []api.Bucket
	edges := []int{0, 1, most - 1, most}
	for _, rate := range edges {
		for _, burst := range edges {
			for _, has := range edges {
				for _, at := range edges {
					if has <= burst {
						list = append(list, api.Bucket{Rate: rate, Burst: burst, Has: has, At: at})
					}
				}
			}
		}
	}
	return list
}

// wrongs are buckets of which something is wrong.
func wrongs() []api.Bucket {
	list := []api.Bucket{
		{Has: 1},
		{Burst: 4, Has: 5},
		{Rate: 7, Burst: 0, Has: most, At: 3},
		{Rate: most, Burst: most - 1, Has: most, At: most},
	}
	for _, n := range outside {
		list = append(list,
			api.Bucket{Rate: n, Burst: 9, Has: 5, At: 3},
			api.Bucket{Rate: 2, Burst: n, Has: 5, At: 3},
			api.Bucket{Rate: 2, Burst: n, Has: 0, At: 3},
			api.Bucket{Rate: 2, Burst: 9, Has: n, At: 3},
			api.Bucket{Rate: 2, Burst: 9, Has: 5, At: n},
			api.Bucket{Rate: 2, Burst: n, Has: n, At: 3},
			api.Bucket{Rate: n, Burst: n, Has: n, At: n},
		)
	}
	return list
}

func TestBU1Check(t *testing.T) {
	holdCheck(t, api.Bucket{}, api.OK)
	holdCheck(t, api.Bucket{Rate: 2, Burst: 9, Has: 9, At: 100}, api.OK)
	// More a tick than there may be is nothing wrong.
	holdCheck(t, api.Bucket{Rate: 10, Burst: 9}, api.OK)
	for _, b := range whole() {
		holdCheck(t, b, api.OK)
	}
	for _, b := range wrongs() {
		holdCheck(t, b, api.ErrRange)
	}
}

func TestBU1Fill(t *testing.T) {
	for _, c := range []struct {
		b    api.Bucket
		now  int
		want int
	}{
		{api.Bucket{}, 0, 0},
		{api.Bucket{}, most, 0},
		{api.Bucket{Rate: 2, Burst: 9}, 0, 0},
		{api.Bucket{Rate: 2, Burst: 9}, 1, 2},
		{api.Bucket{Rate: 2, Burst: 9}, 3, 6},
		{api.Bucket{Rate: 2, Burst: 9}, 4, 8},
		{api.Bucket{Rate: 2, Burst: 9}, 5, 9},
		{api.Bucket{Rate: 2, Burst: 9}, 6, 9},
		{api.Bucket{Rate: 2, Burst: 9}, most, 9},
		{api.Bucket{Rate: 2, Burst: 9, Has: 1, At: 100}, 100, 1},
		{api.Bucket{Rate: 2, Burst: 9, Has: 1, At: 100}, 101, 3},
		{api.Bucket{Rate: 2, Burst: 9, Has: 1, At: 100}, 104, 9},
		{api.Bucket{Rate: 2, Burst: 9, Has: 1, At: 100}, 105, 9},
		{api.Bucket{Rate: 2, Burst: 9, Has: 9, At: 100}, 100, 9},
		{api.Bucket{Rate: 2, Burst: 9, Has: 9, At: 100}, 200, 9},
		{api.Bucket{Rate: 0, Burst: 9, Has: 4, At: 1}, most, 4},
		{api.Bucket{Rate: 5, Burst: 0}, most, 0},
		{api.Bucket{Rate: 10, Burst: 9}, 1, 9},
		{api.Bucket{Rate: 1, Burst: most}, most, most},
		{api.Bucket{Rate: 1, Burst: most, Has: 1, At: 2}, most, most - 1},
		{api.Bucket{Rate: 1, Burst: most, Has: 2, At: 2}, most, most},
		{api.Bucket{Rate: 1, Burst: most, Has: 3, At: 2}, most, most},
		{api.Bucket{Rate: 3, Burst: 9, Has: 2, At: most}, most, 2},
		{api.Bucket{Rate: most, Burst: most, Has: 0, At: most - 1}, most, most},
	} {
		holdFill(t, c.b, c.now, api.Bucket{Rate: c.b.Rate, Burst: c.b.Burst, Has: c.want, At: c.now}, api.OK)
	}
}

// TestBU1FillGreat: where there would be far more than any number of 32 bits,
// there is no more than Burst.
func TestBU1FillGreat(t *testing.T) {
	for _, rate := range []int{2, 3, 1 << 16, 1<<30 + 1, most - 1, most} {
		for _, burst := range []int{1, 9, most - 1, most} {
			for _, has := range []int{0, 1, burst} {
				b := api.Bucket{Rate: rate, Burst: burst, Has: has}
				holdFill(t, b, most, api.Bucket{Rate: rate, Burst: burst, Has: burst, At: most}, api.OK)
			}
		}
	}
}

// TestBU1FillByTicks holds what Fill tells against ticks gone one by one, at
// each of which there are Rate more, but no more than Burst.
func TestBU1FillByTicks(t *testing.T) {
	for rate := range 6 {
		for burst := range 8 {
			for has := range burst + 1 {
				b := api.Bucket{Rate: rate, Burst: burst, Has: has, At: 7}
				want := b
				for range 12 {
					holdFill(t, b, want.At, want, api.OK)
					want.At++
					for range rate {
						if want.Has < burst {
							want.Has++
						}
					}
				}
			}
		}
	}
}

// TestBU1FillByParts: a bucket filled on the way is the same in the end.
func TestBU1FillByParts(t *testing.T) {
	below := numbers(3)
	for range 1000 {
		burst := below(50)
		b := api.Bucket{Rate: below(9), Burst: burst, Has: below(burst + 1), At: below(100)}
		first := b.At + below(10)
		last := first + below(10)
		half, err := bucket.Fill(b, first)
		if err != nil {
			t.Fatalf("Fill(%v, %d): %v", b, first, err)
		}
		want, _ := bucket.Fill(b, last)
		holdFill(t, half, last, want, api.OK)
	}
}

func TestBU1Take(t *testing.T) {
	b := api.Bucket{Rate: 2, Burst: 9, Has: 1, At: 100}
	with := func(has, at int) api.Bucket { return api.Bucket{Rate: 2, Burst: 9, Has: has, At: at} }
	for _, c := range []struct {
		now, n int
		want   answer
	}{
		{100, 0, answer{with(1, 100), true, api.OK}},
		{100, 1, answer{with(0, 100), true, api.OK}},
		{100, 2, answer{with(1, 100), false, api.OK}},
		{101, 0, answer{with(3, 101), true, api.OK}},
		{101, 2, answer{with(1, 101), true, api.OK}},
		{101, 3, answer{with(0, 101), true, api.OK}},
		{101, 4, answer{with(3, 101), false, api.OK}},
		{103, 7, answer{with(0, 103), true, api.OK}},
		{103, 8, answer{with(7, 103), false, api.OK}},
		{104, 9, answer{with(0, 104), true, api.OK}},
		{104, 10, answer{with(9, 104), false, api.OK}},
		{most, 0, answer{with(9, most), true, api.OK}},
		{most, 9, answer{with(0, most), true, api.OK}},
		{most, 10, answer{with(9, most), false, api.OK}},
		// However great n is, it is nothing wrong: there are only not as many.
		{101, most, answer{with(3, 101), false, api.OK}},
		{101, most + 1, answer{with(3, 101), false, api.OK}},
		{101, 1 << 32, answer{with(3, 101), false, api.OK}},
		{101, 1<<32 + 1, answer{with(3, 101), false, api.OK}},
		{101, math.MaxInt, answer{with(3, 101), false, api.OK}},
	} {
		holdTake(t, b, c.now, c.n, c.want)
	}
	if b != with(1, 100) {
		t.Errorf("what was handed in is changed: %v", b)
	}
}

func TestBU1TakeEdges(t *testing.T) {
	holdTake(t, api.Bucket{}, 0, 0, answer{api.Bucket{}, true, api.OK})
	holdTake(t, api.Bucket{}, 0, 1, answer{api.Bucket{}, false, api.OK})
	holdTake(t, api.Bucket{Rate: 4}, 5, 0, answer{api.Bucket{Rate: 4, At: 5}, true, api.OK})
	holdTake(t, api.Bucket{Rate: 4}, 5, 1, answer{api.Bucket{Rate: 4, At: 5}, false, api.OK})
	full := api.Bucket{Rate: most, Burst: most}
	holdTake(t, full, most, most, answer{api.Bucket{Rate: most, Burst: most, At: most}, true, api.OK})
	holdTake(t, full, most, most+1, answer{api.Bucket{Rate: most, Burst: most, Has: most, At: most}, false, api.OK})
}

// TestBU1Errors has buckets of which something is wrong, and ticks that are not
// from At to MaxTick.
func TestBU1Errors(t *testing.T) {
	for _, b := range wrongs() {
		for _, now := range append([]int{0, 3, 100, most}, outside...) {
			holdNone(t, b, now)
		}
	}
	for _, b := range whole() {
		for _, now := range append([]int{b.At - 1, b.At - 2}, outside...) {
			holdNone(t, b, now)
		}
	}
	b := api.Bucket{Rate: 2, Burst: 9, Has: 5, At: 100}
	for _, now := range []int{0, 1, 98, 99} {
		holdNone(t, b, now)
	}
}

// TestBU1TakeErrors has an n below 0, of buckets and ticks that are right.
func TestBU1TakeErrors(t *testing.T) {
	for _, b := range whole() {
		for _, now := range []int{b.At, most} {
			for _, n := range []int{-1, -2, -most, -1 << 32, math.MinInt + 1, math.MinInt} {
				holdTake(t, b, now, n, answer{err: api.ErrRange})
			}
		}
	}
}

// TestBU1TakeOfAll takes all kinds of numbers from buckets that are right: each
// time as Fill tells it, with n less where there are n.
func TestBU1TakeOfAll(t *testing.T) {
	for _, b := range whole() {
		for _, now := range []int{b.At, min(b.At+1, most), most} {
			filled, err := bucket.Fill(b, now)
			if err != nil {
				t.Fatalf("Fill(%v, %d): %v", b, now, err)
			}
			holdCheck(t, filled, api.OK)
			less := filled
			less.Has = 0
			holdTake(t, b, now, 0, answer{filled, true, api.OK})
			holdTake(t, b, now, filled.Has, answer{less, true, api.OK})
			holdTake(t, b, now, filled.Has+1, answer{filled, false, api.OK})
		}
	}
}

// TestBU1NoMore takes again and again: what there is, and nothing else; so that
// from any tick to any other it is no more than Burst, and Rate for each tick
// between.
func TestBU1NoMore(t *testing.T) {
	below := numbers(8)
	for round := range 100 {
		b := api.Bucket{Rate: below(5), Burst: below(20)}
		rate, burst := b.Rate, b.Burst
		b.Has = below(burst + 1)
		all, took := b.Has, []int{}
		for now := range 60 {
			if now > 0 {
				all = min(all+rate, burst)
			}
			took = append(took, 0)
			for range below(8) {
				n := 1 + below(3)*(round%2)
				told, is, err := bucket.Take(b, now, n)
				if err != nil || is != (n <= all) {
					t.Fatalf("Take(%v, %d, %d): got %v, %v, of %d", b, now, n, is, err, all)
				}
				if is {
					all -= n
					took[now] += n
				}
				b = told
			}
		}
		for from := range took {
			sum := 0
			for to := from; to < len(took); to++ {
				sum += took[to]
				if sum > burst+rate*(to-from) {
					t.Fatalf("%d a tick, %d at most: %d are taken from tick %d to %d", rate, burst, sum, from, to)
				}
			}
		}
	}
}
