package ballot_test

import (
	"math"
	"slices"
	"testing"

	"cambist/api"
	"cambist/ballot"
)

// most is the greatest number of a ballot, by the chapter's own figure.
const most = 1073741824

// numbers are ints in ascending order, most of which no ballot has: the least and the greatest ones, and those about each limit.
func numbers() []int {
	return []int{math.MinInt, math.MinInt + 1, math.MinInt32, -most - 1, -most, -7, -2, -1, 0, 1, 2, 3, 5, 6, 7, 8, 64, 999, most - 1, most, most + 1, math.MaxInt32, math.MaxInt32 + 1, 1 << 32, 1<<32 + 1, math.MaxInt - 1, math.MaxInt}
}

// all are the ballots of those numbers, in ascending order.
func all() []api.Ballot {
	l := []api.Ballot{}
	for _, number := range numbers() {
		for _, replica := range numbers() {
			l = append(l, of(number, replica))
		}
	}
	return l
}

// valid are ballots that may be, in ascending order.
func valid() []api.Ballot {
	l := []api.Ballot{}
	for _, number := range []int{0, 1, 2, 3, 4, 7, 1000, 1 << 16, most / 2, most - 2, most - 1, most} {
		for replica := range 7 {
			l = append(l, of(number, replica))
		}
	}
	return l
}

func of(number, replica int) api.Ballot {
	return api.Ballot{Number: number, Replica: replica}
}

func wantValid(t *testing.T, b api.Ballot, want bool) {
	t.Helper()
	if got := ballot.Valid(b); got != want {
		t.Errorf("Valid(%d) = %t, want %t", b, got, want)
	}
}

func wantLess(t *testing.T, a, b api.Ballot, want bool) {
	t.Helper()
	if got := ballot.Less(a, b); got != want {
		t.Errorf("Less(%d, %d) = %t, want %t", a, b, got, want)
	}
}

func wantNext(t *testing.T, b api.Ballot, replica int, want api.Ballot, wantErr api.Errno) {
	t.Helper()
	got, err := ballot.Next(b, replica)
	if got != want || err != wantErr {
		t.Errorf("Next(%d, %d) = %d, %d, want %d, %d", b, replica, got, err, want, wantErr)
	}
}

func wantLater(t *testing.T, a, b, want api.Ballot) {
	t.Helper()
	if got := ballot.Later(a, b); got != want {
		t.Errorf("Later(%d, %d) = %d, want %d", a, b, got, want)
	}
}

// P4.1: the limits are the chapter's.
func TestLimits(t *testing.T) {
	if api.MaxBallot != most || api.MaxReplicas != 7 {
		t.Fatalf("MaxBallot is %d, MaxReplicas %d", api.MaxBallot, api.MaxReplicas)
	}
}

// P4.1: valid ballots, up to each edge.
func TestValid(t *testing.T) {
	wantValid(t, of(3, 2), true)
	wantValid(t, of(0, 0), true)
	wantValid(t, of(0, 6), true)
	wantValid(t, of(most, 0), true)
	wantValid(t, of(most, 6), true)
	for _, b := range valid() {
		wantValid(t, b, true)
	}
}

// P4.1: a Number or a Replica beyond an edge is enough.
func TestNotValid(t *testing.T) {
	wantValid(t, of(-1, 0), false)
	wantValid(t, of(most+1, 0), false)
	wantValid(t, of(0, -1), false)
	wantValid(t, of(0, 7), false)
	wantValid(t, of(most, 7), false)
	wantValid(t, of(-1, -1), false)
	for _, b := range all() {
		goodNumber := slices.Contains([]int{0, 1, 2, 3, 5, 6, 7, 8, 64, 999, most - 1, most}, b.Number)
		goodReplica := slices.Contains([]int{0, 1, 2, 3, 4, 5, 6}, b.Replica)
		wantValid(t, b, goodNumber && goodReplica)
	}
}

// P4.2: by the Number, and by the Replica where the Numbers are equal.
func TestLess(t *testing.T) {
	wantLess(t, ballot.First(1), ballot.First(2), true)
	wantLess(t, ballot.First(2), ballot.First(1), false)
	wantLess(t, of(3, 6), of(4, 0), true)
	wantLess(t, of(4, 0), of(3, 6), false)
	wantLess(t, of(3, 2), of(3, 2), false)
	wantLess(t, of(3, 2), of(4, 2), true)
	wantLess(t, of(4, 2), of(3, 2), false)
	wantLess(t, of(1, 3), of(2, 5), true)
	wantLess(t, of(2, 5), of(1, 3), false)
	wantLess(t, of(most, 5), of(most, 6), true)
	wantLess(t, of(most, 0), of(most-1, 6), false)
}

// P4.2: so it is for ballots that are not valid, even such as differ by more than an int holds.
func TestLessAnywhere(t *testing.T) {
	wantLess(t, of(math.MinInt, 0), of(math.MaxInt, 0), true)
	wantLess(t, of(math.MaxInt, 0), of(math.MinInt, 0), false)
	wantLess(t, of(0, math.MinInt), of(0, math.MaxInt), true)
	wantLess(t, of(0, math.MaxInt), of(0, math.MinInt), false)
	wantLess(t, of(0, 9), of(1, -9), true)
	wantLess(t, of(-1, 0), of(0, 0), true)
	l := all()
	for i, a := range l {
		for j, b := range l {
			wantLess(t, a, b, i < j)
		}
	}
}

// P4.3: the Number 0, and the Replica that was given, whichever it is.
func TestFirst(t *testing.T) {
	for _, replica := range append(numbers(), 4) {
		got := ballot.First(replica)
		if got.Number != 0 || got.Replica != replica {
			t.Errorf("First(%d) = %d", replica, got)
		}
	}
	for replica := range 7 {
		wantValid(t, ballot.First(replica), true)
	}
}

// P4.4: the Number greater by one, for the replica that was given.
func TestNext(t *testing.T) {
	wantNext(t, of(3, 2), 0, of(4, 0), api.OK)
	wantNext(t, of(3, 2), 2, of(4, 2), api.OK)
	wantNext(t, of(0, 0), 0, of(1, 0), api.OK)
	wantNext(t, of(0, 0), 6, of(1, 6), api.OK)
	wantNext(t, of(0, 6), 0, of(1, 0), api.OK)
	wantNext(t, of(most-1, 6), 6, of(most, 6), api.OK)
	wantNext(t, of(most-1, 0), 0, of(most, 0), api.OK)
	for _, b := range valid() {
		for replica := range 7 {
			if b.Number < most {
				wantNext(t, b, replica, of(b.Number+1, replica), api.OK)
			}
		}
	}
}

// P4.4: nothing is beyond MaxBallot.
func TestNextOver(t *testing.T) {
	for holder := range 7 {
		for replica := range 7 {
			wantNext(t, of(most, holder), replica, api.Ballot{}, api.ErrOver)
		}
	}
}

// P4.4: a ballot that is not valid, or a replica that is none, comes ahead of a Number that is MaxBallot.
func TestNextWrong(t *testing.T) {
	wantNext(t, of(-1, 0), 0, api.Ballot{}, api.ErrArg)
	wantNext(t, of(most+1, 0), 0, api.Ballot{}, api.ErrArg)
	wantNext(t, of(3, -1), 0, api.Ballot{}, api.ErrArg)
	wantNext(t, of(3, 7), 0, api.Ballot{}, api.ErrArg)
	wantNext(t, of(3, 2), -1, api.Ballot{}, api.ErrArg)
	wantNext(t, of(3, 2), 7, api.Ballot{}, api.ErrArg)
	wantNext(t, of(most, 2), 7, api.Ballot{}, api.ErrArg)
	wantNext(t, of(most, 2), -1, api.Ballot{}, api.ErrArg)
	wantNext(t, of(most, 7), 0, api.Ballot{}, api.ErrArg)
	wantNext(t, of(math.MaxInt, 0), 0, api.Ballot{}, api.ErrArg)
	for _, b := range all() {
		for _, replica := range numbers() {
			if !ballot.Valid(b) || replica < 0 || replica > 6 {
				wantNext(t, b, replica, api.Ballot{}, api.ErrArg)
			}
		}
	}
}

// P4.5: the greater one, whichever of both it is.
func TestLater(t *testing.T) {
	wantLater(t, of(4, 0), ballot.First(6), of(4, 0))
	wantLater(t, ballot.First(6), of(4, 0), of(4, 0))
	wantLater(t, of(3, 2), of(3, 5), of(3, 5))
	wantLater(t, of(3, 5), of(3, 2), of(3, 5))
	wantLater(t, of(3, 2), of(3, 2), of(3, 2))
	wantLater(t, of(-1, 6), of(0, 0), of(0, 0))
	wantLater(t, of(math.MinInt, 1), of(math.MaxInt, 0), of(math.MaxInt, 0))
	l := all()
	for i, a := range l {
		for j, b := range l {
			wantLater(t, a, b, l[max(i, j)])
		}
	}
}

// P4.6: of two different ballots exactly one is less, and none is less than itself.
func TestOneIsLess(t *testing.T) {
	for _, a := range all() {
		wantLess(t, a, a, false)
		for _, b := range all() {
			if a != b && ballot.Less(a, b) == ballot.Less(b, a) {
				t.Errorf("Less of %d and %d, and the other way round: both %t", a, b, ballot.Less(a, b))
			}
		}
	}
}

// P4.6: what is less than a ballot is less than those above it too.
func TestLessGoesOn(t *testing.T) {
	l := valid()
	for _, a := range l {
		for _, b := range l {
			for _, c := range l {
				if ballot.Less(a, b) && ballot.Less(b, c) && !ballot.Less(a, c) {
					t.Errorf("%d is less than %d, this less than %d, but not the first one", a, b, c)
				}
			}
		}
	}
}

// P4.6: sorting by Less comes to the same, in whatever order the ballots were.
func TestSorted(t *testing.T) {
	sorted := valid()
	for step := 1; step < len(sorted); step++ {
		mixed := []api.Ballot{}
		for start := range step {
			for i := start; i < len(sorted); i += step {
				mixed = append(mixed, sorted[i])
			}
		}
		slices.Reverse(mixed)
		slices.SortFunc(mixed, byLess)
		if !slices.Equal(mixed, sorted) {
			t.Fatalf("sorted: %d", mixed)
		}
	}
}

func byLess(a, b api.Ballot) int {
	switch {
	case ballot.Less(a, b):
		return -1
	case ballot.Less(b, a):
		return 1
	}
	return 0
}

// P4.7: the next ballot is valid and greater, also than those that other replicas have of the same Number.
func TestNextIsGreater(t *testing.T) {
	wantLess(t, of(3, 6), of(4, 0), true)
	for _, b := range valid() {
		for replica := range 7 {
			next, err := ballot.Next(b, replica)
			if err != api.OK {
				continue
			}
			wantValid(t, next, true)
			for holder := range 7 {
				wantLess(t, of(b.Number, holder), next, true)
				wantLater(t, of(b.Number, holder), next, next)
			}
		}
	}
}

// P4.7: no two replicas come to the same next ballot, from whichever ones they start.
func TestNextOfTwoReplicas(t *testing.T) {
	owners := map[api.Ballot]int{}
	for _, b := range valid() {
		for replica := range 7 {
			next, err := ballot.Next(b, replica)
			if err != api.OK {
				continue
			}
			if owner, found := owners[next]; found && owner != replica {
				t.Errorf("%d is the next ballot of replicas %d and %d", next, owner, replica)
			}
			owners[next] = replica
		}
	}
}

// P4.7: one after the other, replicas that outbid each other go up all the way to MaxBallot, and no further.
func TestClimb(t *testing.T) {
	b := of(most-100, 6)
	for turn := range 100 {
		next, err := ballot.Next(b, turn*3%7)
		if err != api.OK || !ballot.Less(b, next) {
			t.Fatalf("after %d: %d, %d", b, next, err)
		}
		b = next
	}
	wantNext(t, b, 0, api.Ballot{}, api.ErrOver)
}
