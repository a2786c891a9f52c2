package meta

import (
	"fmt"
	"math"
	"math/big"
	"slices"
	"testing"

	"chronicle/api"
)

// floors holds what Floor must tell.
func floors(t *testing.T, want int, m api.Meta, floor, now int, times ...int) {
	t.Helper()
	equal(t, fmt.Sprint("Floor of ", m, ", floor ", floor, ", now ", now, ", times ", times), Floor(m, floor, now, times...), want)
}

// plainFloor reckons a floor as the chapter words it, in whole numbers without an end.
func plainFloor(m api.Meta, floor, now int, times []int) int {
	bounds := []int{0, floor, m.Before}
	if m.MaxCount > 0 {
		bounds = append(bounds, len(times)-m.MaxCount)
	}
	if m.MaxAge > 0 {
		oldest := new(big.Int).Sub(big.NewInt(int64(now)), big.NewInt(int64(m.MaxAge)))
		k := 0
		for k < len(times) && big.NewInt(int64(times[k])).Cmp(oldest) <= 0 {
			k++
		}
		bounds = append(bounds, k)
	}
	return min(slices.Max(bounds), len(times))
}

// someTimes are the times of streams: none, rising, alike and falling ones.
func someTimes() [][]int {
	return [][]int{nil, {}, {0}, {3}, {9}, {-2}, {0, 0}, {1, 2}, {2, 1}, {3, 3}, {1, 2, 3}, {3, 2, 1}, {2, 4, 2}, {4, 2, 4}, {1, 1, 3, 3}, {0, 1, 2, 3, 4}, {4, 3, 2, 1, 0}, {5, 5, 5, 5, 5}}
}

// P1502

func TestFloorOfTheExample(t *testing.T) {
	floors(t, 1, of(2, 0, 0), 0, 9, 1, 2, 3)
}

func TestFloorSoFar(t *testing.T) {
	for floor, want := range map[int]int{math.MinInt: 0, -7: 0, -1: 0, 0: 0, 1: 1, 2: 2, 3: 3, 4: 3, 7: 3, math.MaxInt: 3} {
		floors(t, want, api.Meta{}, floor, 9, 1, 2, 3)
		floors(t, 0, api.Meta{}, floor, 9)
	}
}

func TestFloorByBefore(t *testing.T) {
	for before, want := range map[int]int{math.MinInt: 0, -1: 0, 0: 0, 1: 1, 2: 2, 3: 3, 4: 3, bound: 3, math.MaxInt: 3} {
		floors(t, want, of(0, 0, before), 0, 9, 1, 2, 3)
		floors(t, max(want, 1), of(0, 0, before), 1, 9, 1, 2, 3)
		floors(t, 0, of(0, 0, before), 0, 9)
	}
}

func TestFloorByCount(t *testing.T) {
	for count, want := range map[int]int{math.MinInt: 0, -1: 0, 0: 0, 1: 2, 2: 1, 3: 0, 4: 0, bound: 0, math.MaxInt: 0} {
		floors(t, want, of(count, 0, 0), 0, 9, 1, 2, 3)
		floors(t, max(want, 1), of(count, 0, 0), 1, 9, 1, 2, 3)
		floors(t, 0, of(count, 0, 0), 0, 9)
	}
}

func TestFloorByAge(t *testing.T) {
	for age, want := range map[int]int{math.MinInt: 0, -1: 0, 0: 0, 1: 3, 5: 3, 6: 3, 7: 2, 8: 1, 9: 0, 10: 0, bound: 0, math.MaxInt: 0} {
		floors(t, want, of(0, age, 0), 0, 9, 1, 2, 3)
		floors(t, max(want, 1), of(0, age, 0), 1, 9, 1, 2, 3)
		floors(t, 0, of(0, age, 0), 0, 9)
	}
	for now, want := range map[int]int{math.MinInt: 0, -1: 0, 0: 0, 2: 0, 3: 1, 4: 2, 5: 3, 6: 3, math.MaxInt: 3} {
		floors(t, want, of(0, 2, 0), 0, now, 1, 2, 3)
	}
}

func TestFloorByAgeOfTimesThatAreAlikeOrFall(t *testing.T) {
	floors(t, 0, of(0, 100, 0), 0, 9, 0, 0)
	floors(t, 2, of(0, 9, 0), 0, 9, 0, 0)
	floors(t, 2, of(0, 3, 0), 0, 6, 3, 3, 4, 4)
	floors(t, 0, of(0, 5, 0), 0, 10, 9, 2, 8)
	floors(t, 1, of(0, 5, 0), 1, 10, 9, 2, 8)
	floors(t, 1, of(0, 5, 0), 0, 10, 2, 9, 2)
	floors(t, 3, of(0, 5, 0), 0, 10, 5, 4, 3)
	floors(t, 0, of(0, 5, 0), 0, 10, 11, 10, 9, 8)
	floors(t, 7, of(0, 5, 0), 0, 10, 1, 1, 1, 1, 1, 1, 1, 6, 1, 1)
}

func TestFloorIsTheGreatestBound(t *testing.T) {
	times := []int{1, 2, 3, 4, 5}
	floors(t, 4, of(1, 7, 1), 0, 9, times...)
	floors(t, 2, of(3, 7, 0), 0, 9, times...)
	floors(t, 3, of(4, 6, 1), 2, 9, times...)
	floors(t, 3, of(4, 100, 3), 2, 9, times...)
	floors(t, 4, of(4, 100, 3), 4, 9, times...)
	floors(t, 5, of(4, 1, 3), 4, 9, times...)
	floors(t, 0, of(-1, -1, -1), -1, 9, times...)
}

func TestFloorOfAllSmallNumbers(t *testing.T) {
	for _, times := range someTimes() {
		for k := range 7 * 7 * 7 * 7 * 8 {
			m := of(k%7-1, k/7%7-1, k/49%7-1)
			floor, now := k/343%7-1, k/2401-1
			floors(t, plainFloor(m, floor, now, times), m, floor, now, times...)
		}
	}
}

func TestFloorAtTheEndsOfInt(t *testing.T) {
	ends := []int{math.MinInt, math.MinInt + 1, -1 << 62, -1, 0, 1, bound, 1 << 62, math.MaxInt - 1, math.MaxInt}
	for _, now := range ends {
		for _, age := range ends {
			for _, one := range ends {
				for _, two := range ends {
					floors(t, plainFloor(of(0, age, 0), 0, now, []int{one, two}), of(0, age, 0), 0, now, one, two)
				}
				m := of(age, one, age)
				floors(t, plainFloor(m, one, now, []int{one, now, 5}), m, one, now, one, now, 5)
			}
		}
	}
	floors(t, 0, of(0, 1<<62, 0), 0, math.MinInt, math.MinInt)
	floors(t, 0, of(0, 1, 0), 0, math.MaxInt, math.MaxInt)
	floors(t, 1, of(0, 1, 0), 0, math.MaxInt, math.MaxInt-1)
	floors(t, 1, of(0, math.MaxInt, 0), 0, math.MaxInt, math.MinInt)
}

func TestFloorOfManyEvents(t *testing.T) {
	times := make([]int, 100_000)
	for k := range times {
		times[k] = k / 2
	}
	floors(t, 80_002, of(0, 10_000, 0), 0, 50_000, times...)
	floors(t, 99_000, of(1000, 10_000, 0), 0, 50_000, times...)
	floors(t, 100_000, of(0, 1, 0), 0, 50_000, times...)
}

func TestFloorLeavesWhatWasHandedIn(t *testing.T) {
	for _, times := range someTimes() {
		was := slices.Clone(times)
		for k := range 9 {
			Floor(of(k%3, 1+k/3, k%2), 0, 5, times...)
		}
		equal(t, "times", slices.Equal(times, was), true)
	}
}

// P1503

func TestFloorNeverFalls(t *testing.T) {
	notBelow := func(what string, floor, was int) {
		t.Helper()
		if floor < was {
			t.Errorf("%s: %d, below %d", what, floor, was)
		}
	}
	for _, times := range someTimes() {
		for k := range 6 * 6 * 6 * 5 {
			m := of(k%6-1, k/6%6-1, k/36%6-1)
			floor := k/216 - 1
			for now := -2; now < 9; now++ {
				was := Floor(m, floor, now, times...)
				what := fmt.Sprint(m, floor, now, times)
				notBelow("as now rises "+what, Floor(m, floor, now+1, times...), was)
				for more := -2; more < 9; more += 2 {
					notBelow("as an event is appended "+what, Floor(m, floor, now, append(slices.Clone(times), more)...), was)
				}
				equal(t, "handed on "+what, Floor(m, was, now, times...), was)
				notBelow("handed on to other metadata "+what, Floor(api.Meta{}, was, now, times...), was)
				notBelow("handed on to an earlier now "+what, Floor(m, was, now-3, times...), was)
			}
		}
	}
}

// TestFloorNeverFallsOnItsWay goes on from floor to floor, with metadata that are set anew now and then.
func TestFloorNeverFallsOnItsWay(t *testing.T) {
	seed := uint32(7)
	next := func(n int) int {
		seed = seed*1664525 + 1013904223
		return int(seed>>16) % n
	}
	risen := 0
	for range 300 {
		var m api.Meta
		var times []int
		floor, now := 0, 0
		for range 60 {
			now += next(4)
			if next(5) == 0 {
				m = of(next(6), next(9), next(12))
			}
			for range next(3) {
				times = append(times, now)
			}
			k := Floor(m, floor, now, times...)
			if k < floor || k > len(times) {
				t.Fatal(m, floor, now, k, times)
			}
			equal(t, "on its way", k, plainFloor(m, floor, now, times))
			if k > floor {
				risen++
			}
			floor = k
		}
	}
	equal(t, "whether it often rose", risen > 1000, true)
}
