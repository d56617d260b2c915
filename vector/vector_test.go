package vector_test

import (
	"math"
	"testing"

	"cambist/api"
	"cambist/vector"
)

// most is the greatest number of a valid vector, by the chapter's own figure.
const most = 400

// numbers are ints in ascending order: the least and the greatest ones, and those about each limit.
func numbers() []int {
	return []int{math.MinInt, math.MinInt + 1, math.MinInt32, -most - 1, -most, -7, -2, -1, 0, 1, 2, 3, 4, 5, 6, 7, 8, most / 2, most - 1, most, most + 1, 2 * most, math.MaxInt32, 1 << 32, 1<<32 + 1, math.MaxInt - 1, math.MaxInt}
}

// wrongReplicas are ints that are no replica's.
func wrongReplicas() []int {
	return []int{math.MinInt, math.MinInt + 1, -most, -8, -7, -2, -1, 7, 8, 9, 14, most, 1 << 32, math.MaxInt - 1, math.MaxInt}
}

// mixed are count vectors, the same ones at each call; their numbers are those of pool.
func mixed(count int, pool []int) []api.Vector {
	l := make([]api.Vector, count)
	u := uint64(count)*2654435769 + 1
	for i := range l {
		for replica := range l[i] {
			u = u*6364136223846793005 + 1442695040888963407
			l[i][replica] = pool[int(u>>33)%len(pool)]
		}
	}
	return l
}

// few are numbers so close to each other that vectors of them are often equal in a place.
func few() []int {
	return []int{0, 1, 2, 3}
}

// single is the zero vector but for one number.
func single(replica, n int) api.Vector {
	v := api.Vector{}
	v[replica] = n
	return v
}

// level is the vector of one number for the first replicas, as many as count.
func level(count, n int) api.Vector {
	v := api.Vector{}
	for replica := range count {
		v[replica] = n
	}
	return v
}

func at(replica, slot int) api.Place {
	return api.Place{Replica: replica, Slot: slot}
}

// places are places of all sorts, most of which are no instances.
func places() []api.Place {
	l := []api.Place{}
	for _, slot := range numbers() {
		for replica := range 7 {
			l = append(l, at(replica, slot))
		}
		for _, replica := range wrongReplicas() {
			l = append(l, at(replica, slot))
		}
	}
	return l
}

func wantRight(t *testing.T, v api.Vector, size int, want bool) {
	t.Helper()
	if got := vector.Right(v, size); got != want {
		t.Errorf("Right(%d, %d) = %t, want %t", v, size, got, want)
	}
}

func wantMax(t *testing.T, a, b, want api.Vector) {
	t.Helper()
	if got := vector.Max(a, b); got != want {
		t.Errorf("Max(%d, %d) = %d, want %d", a, b, got, want)
	}
}

func wantRaise(t *testing.T, v api.Vector, p api.Place, want api.Vector) {
	t.Helper()
	if got := vector.Raise(v, p); got != want {
		t.Errorf("Raise(%d, %d) = %d, want %d", v, p, got, want)
	}
}

func wantCovers(t *testing.T, v api.Vector, p api.Place, want bool) {
	t.Helper()
	if got := vector.Covers(v, p); got != want {
		t.Errorf("Covers(%d, %d) = %t, want %t", v, p, got, want)
	}
}

func wantUnder(t *testing.T, a, b api.Vector, want bool) {
	t.Helper()
	if got := vector.Under(a, b); got != want {
		t.Errorf("Under(%d, %d) = %t, want %t", a, b, got, want)
	}
}

func wantCount(t *testing.T, v api.Vector, want int) {
	t.Helper()
	if got := vector.Count(v); got != want {
		t.Errorf("Count(%d) = %d, want %d", v, got, want)
	}
}

// P5.1, P5.3: the limits are the chapter's.
func TestLimits(t *testing.T) {
	if api.MaxSlots != most || api.MaxReplicas != 7 {
		t.Fatalf("MaxSlots is %d, MaxReplicas %d", api.MaxSlots, api.MaxReplicas)
	}
}

// P5.1: valid vectors, up to each edge.
func TestRight(t *testing.T) {
	wantRight(t, api.Vector{2, 4}, 2, true)
	wantRight(t, api.Vector{2, 4}, 3, true)
	wantRight(t, api.Vector{2, 0, 4}, 3, true)
	wantRight(t, api.Vector{1, 2, 3, 4, 5, 6, 7}, 7, true)
	for size := 1; size <= 7; size++ {
		for count := range size + 1 {
			wantRight(t, level(count, 0), size, true)
			wantRight(t, level(count, 1), size, true)
			wantRight(t, level(count, most-1), size, true)
			wantRight(t, level(count, most), size, true)
		}
	}
}

// P5.1: one number that may not be is enough, whichever it is and whatever the others are.
func TestNotRight(t *testing.T) {
	wantRight(t, api.Vector{2, 4}, 1, false)
	for _, n := range numbers() {
		for replica := range 7 {
			for size := 1; size <= 7; size++ {
				want := n == 0 || n > 0 && n <= most && replica < size
				wantRight(t, single(replica, n), size, want)
				for _, rest := range []int{1, most} {
					v := level(size, rest)
					v[replica] = n
					wantRight(t, v, size, want)
				}
			}
		}
	}
}

// P5.1: a number too small does not make up for one too great.
func TestNotRightTwice(t *testing.T) {
	wantRight(t, api.Vector{-1, 401}, 2, false)
	wantRight(t, api.Vector{401, -1}, 7, false)
	wantRight(t, api.Vector{2, 4, -1}, 2, false)
	wantRight(t, api.Vector{2, 4, 0, 0, 0, 0, 1}, 6, false)
	wantRight(t, api.Vector{2, 4, 0, 0, 0, 0, -1}, 6, false)
}

// P5.1: no vector is valid for a size that no cluster has.
func TestRightSize(t *testing.T) {
	for _, size := range append(wrongReplicas(), 0) {
		for count := range 8 {
			wantRight(t, level(count, 0), size, size == 7)
			wantRight(t, level(count, 3), size, size == 7)
		}
	}
}

// P5.2: the greater one of both numbers, for each replica by itself.
func TestMax(t *testing.T) {
	wantMax(t, api.Vector{2, 4}, api.Vector{3, 1}, api.Vector{3, 4})
	wantMax(t, api.Vector{2, 4}, api.Vector{}, api.Vector{2, 4})
	wantMax(t, api.Vector{2, 4}, api.Vector{2, 4}, api.Vector{2, 4})
	wantMax(t, api.Vector{1, 6, 2, 5, 3, 4, 9}, api.Vector{6, 1, 5, 2, 4, 3, 0}, api.Vector{6, 6, 5, 5, 4, 4, 9})
	wantMax(t, api.Vector{0, 0, 0, 0, 0, 0, 1}, api.Vector{0, 0, 0, 0, 0, 0, 2}, api.Vector{0, 0, 0, 0, 0, 0, 2})
	wantMax(t, level(7, most), api.Vector{401}, api.Vector{401, most, most, most, most, most, most})
}

// P5.2: so it is for numbers that are not valid, even such as differ by more than an int holds.
func TestMaxAnywhere(t *testing.T) {
	wantMax(t, api.Vector{-3, -1}, api.Vector{-2, -5}, api.Vector{-2, -1})
	for i, m := range numbers() {
		for j, n := range numbers() {
			for replica := range 7 {
				a, b := level(7, 3), level(7, 3)
				a[replica], b[replica] = m, n
				want := level(7, 3)
				want[replica] = numbers()[max(i, j)]
				wantMax(t, a, b, want)
			}
		}
	}
}

// P5.3: the number is replaced if the Slot is greater, and no other number is.
func TestRaise(t *testing.T) {
	wantRaise(t, api.Vector{2}, at(1, 4), api.Vector{2, 4})
	wantRaise(t, api.Vector{2}, at(0, 4), api.Vector{4})
	wantRaise(t, api.Vector{2}, at(0, 3), api.Vector{3})
	wantRaise(t, api.Vector{2}, at(0, 2), api.Vector{2})
	wantRaise(t, api.Vector{2}, at(0, 1), api.Vector{2})
	wantRaise(t, api.Vector{2}, at(6, most), api.Vector{2, 0, 0, 0, 0, 0, most})
	wantRaise(t, level(7, most), at(3, most), level(7, most))
	wantRaise(t, api.Vector{2}, at(0, 0), api.Vector{2})
	wantRaise(t, api.Vector{2}, at(0, -1), api.Vector{2})
}

// P5.3: so it is for numbers and Slots that are not valid.
func TestRaiseAnywhere(t *testing.T) {
	wantRaise(t, api.Vector{-5}, at(0, -2), api.Vector{-2})
	wantRaise(t, api.Vector{-5}, at(0, 0), api.Vector{0})
	wantRaise(t, api.Vector{most}, at(0, most+1), api.Vector{most + 1})
	for i, n := range numbers() {
		for j, slot := range numbers() {
			for replica := range 7 {
				v, want := level(7, 3), level(7, 3)
				v[replica], want[replica] = n, numbers()[max(i, j)]
				wantRaise(t, v, at(replica, slot), want)
			}
		}
	}
}

// P5.3: a Replica that is none raises nothing.
func TestRaiseWrong(t *testing.T) {
	wantRaise(t, api.Vector{2}, at(-1, 4), api.Vector{2})
	wantRaise(t, api.Vector{2}, at(7, 4), api.Vector{2})
	for _, replica := range wrongReplicas() {
		for _, slot := range numbers() {
			wantRaise(t, api.Vector{1, 2, -3, 4, 500, 0, 7}, at(replica, slot), api.Vector{1, 2, -3, 4, 500, 0, 7})
		}
	}
}

// P5.4: Slots from 1 to the number of the place's own replica.
func TestCovers(t *testing.T) {
	v := api.Vector{2, 4}
	wantCovers(t, v, at(1, 4), true)
	wantCovers(t, v, at(1, 1), true)
	wantCovers(t, v, at(1, 0), false)
	wantCovers(t, v, at(1, 5), false)
	wantCovers(t, v, at(1, -1), false)
	wantCovers(t, v, at(0, 2), true)
	wantCovers(t, v, at(0, 3), false)
	wantCovers(t, v, at(2, 1), false)
	wantCovers(t, v, at(2, 0), false)
	wantCovers(t, level(7, most), at(6, most), true)
	wantCovers(t, level(7, most), at(6, most+1), false)
	raised := vector.Raise(api.Vector{}, at(1, 4))
	wantCovers(t, raised, at(1, 3), true)
	wantCovers(t, raised, at(1, 5), false)
	wantCovers(t, raised, at(0, 1), false)
}

// P5.4: so it is for vectors that are not valid.
func TestCoversAnywhere(t *testing.T) {
	wantCovers(t, api.Vector{500}, at(0, 450), true)
	wantCovers(t, api.Vector{-2}, at(0, -2), false)
	wantCovers(t, api.Vector{-2}, at(0, -3), false)
	for _, n := range numbers() {
		for _, p := range places() {
			isPlace := p.Replica >= 0 && p.Replica <= 6 && p.Slot >= 1
			for replica := range 7 {
				wantCovers(t, single(replica, n), p, isPlace && p.Replica == replica && p.Slot <= n)
			}
		}
	}
}

// P5.4: a Replica that is none has no instances.
func TestCoversWrong(t *testing.T) {
	for _, replica := range wrongReplicas() {
		for _, slot := range numbers() {
			wantCovers(t, api.Vector{}, at(replica, slot), false)
			wantCovers(t, level(7, most), at(replica, slot), false)
			wantCovers(t, level(7, math.MaxInt), at(replica, slot), false)
		}
	}
}

// P5.5: one greater number is enough, whichever it is and whatever the others are.
func TestUnder(t *testing.T) {
	wantUnder(t, api.Vector{2, 4}, api.Vector{1, 5}, false)
	wantUnder(t, api.Vector{1, 5}, api.Vector{2, 4}, false)
	wantUnder(t, api.Vector{2, 4}, api.Vector{2, 4}, true)
	wantUnder(t, api.Vector{2, 4}, api.Vector{2, 5}, true)
	wantUnder(t, api.Vector{2, 4}, api.Vector{3, 5}, true)
	wantUnder(t, api.Vector{2, 4}, api.Vector{2, 3}, false)
	wantUnder(t, api.Vector{}, api.Vector{}, true)
	for replica := range 7 {
		wantUnder(t, api.Vector{}, single(replica, 1), true)
		wantUnder(t, single(replica, 1), api.Vector{}, false)
		a := level(7, 3)
		a[replica] = 6
		wantUnder(t, a, level(7, 5), false)
		wantUnder(t, a, level(7, 6), true)
	}
}

// P5.5: so it is for numbers that are not valid, even such as differ by more than an int holds.
func TestUnderAnywhere(t *testing.T) {
	for i, m := range numbers() {
		for j, n := range numbers() {
			for replica := range 7 {
				wantUnder(t, single(replica, m), single(replica, n), i <= j)
			}
		}
	}
	for _, a := range mixed(300, few()) {
		for _, b := range mixed(200, few()) {
			want := true
			for replica := range 7 {
				want = want && a[replica] <= b[replica]
			}
			wantUnder(t, a, b, want)
			wantUnder(t, a, vector.Max(a, b), true)
			wantUnder(t, b, vector.Max(a, b), true)
		}
	}
}

// P5.6: the sum of all numbers, of which each counts from 0 to 400.
func TestCount(t *testing.T) {
	wantCount(t, api.Vector{2, 4}, 6)
	wantCount(t, api.Vector{}, 0)
	wantCount(t, api.Vector{1, 2, 4, 8, 16, 32, 64}, 127)
	wantCount(t, level(7, most), 7*most)
	wantCount(t, level(7, most+1), 7*most)
	wantCount(t, level(7, -1), 0)
	wantCount(t, api.Vector{-3, 5}, 5)
	wantCount(t, api.Vector{5, -3}, 5)
	wantCount(t, api.Vector{401, 1, -1}, 401)
	wantCount(t, level(7, math.MaxInt), 7*most)
	wantCount(t, level(7, math.MinInt), 0)
	for _, n := range numbers() {
		want := n
		if n < 0 {
			want = 0
		} else if n > most {
			want = most
		}
		for replica := range 7 {
			wantCount(t, single(replica, n), want)
		}
	}
}

// P5.6: for a valid vector, so many instances are covered.
func TestCountCovered(t *testing.T) {
	for _, v := range mixed(100, []int{0, 0, 1, 2, 7, 199, most - 1, most}) {
		wantRight(t, v, 7, true)
		covered := 0
		for replica := range 7 {
			for slot := 1; slot <= most; slot++ {
				if vector.Covers(v, at(replica, slot)) {
					covered++
				}
			}
		}
		wantCount(t, v, covered)
	}
}

// P5.7: Max covers what one of both covers, and nothing else, in either order.
func TestMaxCovers(t *testing.T) {
	all := append(mixed(60, few()), mixed(40, numbers())...)
	for _, a := range all {
		for _, b := range all {
			top := vector.Max(a, b)
			wantMax(t, b, a, top)
			for _, p := range places() {
				wantCovers(t, top, p, vector.Covers(a, p) || vector.Covers(b, p))
			}
		}
	}
}

// P5.8: a raised vector covers the instance, the earlier ones of its replica, and what it covered before.
func TestRaiseCovers(t *testing.T) {
	all := append(mixed(40, few()), mixed(40, numbers())...)
	for _, v := range append(all, api.Vector{}, level(7, most)) {
		for replica := range 7 {
			for _, slot := range []int{1, 2, 3, 4, 5, most / 2, most - 1, most} {
				raised := vector.Raise(v, at(replica, slot))
				wantUnder(t, v, raised, true)
				for earlier := 1; earlier <= slot; earlier++ {
					wantCovers(t, raised, at(replica, earlier), true)
				}
			}
		}
	}
}

// R1: no call panics, whatever it is given.
func TestNoPanic(t *testing.T) {
	for _, v := range mixed(100, numbers()) {
		vector.Count(v)
		for _, size := range numbers() {
			vector.Right(v, size)
		}
		for _, p := range places() {
			vector.Raise(v, p)
			vector.Covers(v, p)
		}
		for _, b := range mixed(100, numbers()) {
			vector.Max(v, b)
			vector.Under(v, b)
		}
	}
}
