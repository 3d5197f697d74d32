package tests

import (
	"math"
	"runtime"
	"slices"
	"sync"
	"testing"

	"loop.example/shapesoftrees/impl"
)

// wishCase is wishes, the places of their cars, their drift, -1 if not all
// park, and their shift.
type wishCase struct {
	list   []int
	places []int
	drift  int
	shift  int
}

// wishCases are wishes whose cars were parked by hand.
var wishCases = []wishCase{
	// No cars and one car.
	{nil, nil, 0, 0},
	{[]int{}, nil, 0, 0},
	{[]int{0}, []int{0}, 0, 0},
	{[]int{1}, []int{-1}, -1, 1},
	// Few cars.
	{[]int{0, 0}, []int{0, 1}, 1, 0},
	{[]int{0, 1}, []int{0, 1}, 0, 0},
	{[]int{1, 0}, []int{1, 0}, 0, 0},
	{[]int{1, 1}, []int{1, -1}, -1, 2},
	{[]int{0, 0, 1}, []int{0, 1, 2}, 2, 0},
	{[]int{1, 0, 0}, []int{1, 0, 2}, 2, 0},
	{[]int{2, 0, 1}, []int{2, 0, 1}, 0, 0},
	{[]int{1, 1, 1}, []int{1, 2, -1}, -1, 3},
	{[]int{1, 1, 0, 0}, []int{1, 2, 0, 3}, 4, 0},
	{[]int{2, 2, 2, 0}, []int{2, 3, -1, 0}, -1, 3},
	// Wishes at the end.
	{[]int{2, 2}, []int{-1, -1}, -1, 1},
	{[]int{0, 2}, []int{0, -1}, -1, 1},
	{[]int{2, 0}, []int{-1, 0}, -1, 1},
	{[]int{1, 2}, []int{1, -1}, -1, 2},
	{[]int{2, 2, 0}, []int{2, -1, 0}, -1, 2},
	{[]int{3, 2, 1}, []int{-1, 2, 1}, -1, 3},
	{[]int{3, 3, 3}, []int{-1, -1, -1}, -1, 1},
	{[]int{3, 0, 0, 0}, []int{3, 0, 1, 2}, 3, 0},
	{[]int{4, 0, 0, 0}, []int{-1, 0, 1, 2}, -1, 1},
	// As many cars as there may be.
	{[]int{2, 0, 2, 4, 0, 1, 4, 1}, []int{2, 0, 3, 4, 1, 5, 6, 7}, 14, 0},
	{[]int{0, 1, 2, 3, 4, 5, 6, 7}, []int{0, 1, 2, 3, 4, 5, 6, 7}, 0, 0},
	{[]int{7, 6, 5, 4, 3, 2, 1, 0}, []int{7, 6, 5, 4, 3, 2, 1, 0}, 0, 0},
	{[]int{1, 2, 3, 4, 5, 6, 7, 8}, []int{1, 2, 3, 4, 5, 6, 7, -1}, -1, 8},
	{[]int{8, 7, 6, 5, 4, 3, 2, 1}, []int{-1, 7, 6, 5, 4, 3, 2, 1}, -1, 8},
	{[]int{8, 0, 0, 0, 0, 0, 0, 0}, []int{-1, 0, 1, 2, 3, 4, 5, 6}, -1, 1},
	{[]int{0, 0, 0, 0, 0, 0, 0, 8}, []int{0, 1, 2, 3, 4, 5, 6, -1}, -1, 1},
	{[]int{7, 0, 0, 0, 0, 0, 0, 0}, []int{7, 0, 1, 2, 3, 4, 5, 6}, 21, 0},
	{[]int{0, 0, 0, 0, 0, 0, 0, 0}, []int{0, 1, 2, 3, 4, 5, 6, 7}, 28, 0},
	{[]int{1, 1, 1, 1, 1, 1, 1, 1}, []int{1, 2, 3, 4, 5, 6, 7, -1}, -1, 8},
	{[]int{7, 7, 7, 7, 7, 7, 7, 7}, []int{7, -1, -1, -1, -1, -1, -1, -1}, -1, 2},
	{[]int{8, 8, 8, 8, 8, 8, 8, 8}, []int{-1, -1, -1, -1, -1, -1, -1, -1}, -1, 1},
}

// noWishes are numbers that are no wishes.
var noWishes = [][]int{
	// Wishes below 0.
	{-1}, {-2}, {0, -1}, {-1, 0}, {-1, -1}, {-3, 0}, {0, -1, 0}, {0, 0, -1}, {1, -4, 0}, {-1, 0, 0, 0, 0, 0, 0, 0},
	{0, 0, 0, 0, 0, 0, 0, -1}, {math.MinInt}, {math.MinInt, 0}, {0, math.MinInt + 1}, {math.MinInt, math.MaxInt},
	// Wishes past the place behind the last one.
	{2}, {3}, {0, 3}, {3, 0}, {3, 3}, {0, 0, 4}, {4, 0, 0}, {0, 8, 0}, {9, 0, 0, 0, 0, 0, 0, 0}, {0, 0, 0, 0, 0, 0, 0, 9},
	{9, 9, 9, 9, 9, 9, 9, 9}, {0, 1, 2, 3, 4, 5, 6, 10}, {math.MaxInt}, {math.MaxInt, 0}, {0, math.MaxInt},
	{math.MaxInt - 1, 1}, {-1, 3}, {3, -1},
	// Too many cars.
	make([]int, impl.MaxCars+1), {0, 1, 2, 3, 4, 5, 6, 7, 8}, {9, 9, 9, 9, 9, 9, 9, 9, 9}, {8, 8, 8, 8, 8, 8, 8, 8, 8},
	{-1, -1, -1, -1, -1, -1, -1, -1, -1}, {0, 0, 0, 0, 0, 0, 0, 0, 10}, make([]int, impl.MaxCars+2), make([]int, 1000),
	slices.Repeat([]int{1000}, 1000),
}

// countsOfNoCars are numbers of cars that are negative or too many.
var countsOfNoCars = []int{-1, -2, impl.MaxCars + 1, impl.MaxCars + 2, 63, 64, 1000, math.MinInt, math.MinInt + 1, math.MaxInt}

// parkingCounts holds for how many wishes of 0 cars up to MaxCars all park.
var parkingCounts = []int{1, 1, 3, 16, 125, 1296, 16807, 262144, 4782969}

// everyWishes returns all wishes of up to 5 cars, and of more all that ascend,
// also the other way round, and every other one first. Wishes of that many cars
// in all orders would be too many.
var everyWishes = sync.OnceValue(func() [][]int {
	var lists [][]int
	for n := range 6 {
		lists = append(lists, rowsOfNumbers(n, 0, n)...)
	}
	for n := 6; n <= impl.MaxCars; n++ {
		for _, list := range ascendingWishes(n) {
			lists = append(lists, list, otherWayRound(list), everyOtherFirst(list))
		}
	}
	return lists
})

// ascendingWishes returns all wishes of n cars of which none is less than the
// one ahead of it.
func ascendingWishes(n int) [][]int {
	rows := [][]int{{}}
	for range n {
		var longer [][]int
		for _, row := range rows {
			least := 0
			if len(row) > 0 {
				least = row[len(row)-1]
			}
			for wish := least; wish <= n; wish++ {
				longer = append(longer, append(slices.Clone(row), wish))
			}
		}
		rows = longer
	}
	return rows
}

// otherWayRound returns numbers from the last one to the first one.
func otherWayRound(list []int) []int {
	turned := slices.Clone(list)
	slices.Reverse(turned)
	return turned
}

// everyOtherFirst returns the numbers at odd places, and then all others.
func everyOtherFirst(list []int) []int {
	var first, second []int
	for i, number := range list {
		if i%2 == 1 {
			first = append(first, number)
		} else {
			second = append(second, number)
		}
	}
	return append(first, second...)
}

// ascending returns numbers in order.
func ascending(list []int) []int {
	return slices.Sorted(slices.Values(list))
}

// sumOf returns all numbers together.
func sumOf(list []int) int {
	sum := 0
	for _, number := range list {
		sum += number
	}
	return sum
}

// powerOf returns a number times itself, so many times.
func powerOf(number int, times int) int {
	product := 1
	for range times {
		product *= number
	}
	return product
}

// shiftedBy returns wishes shifted on a ring of one place more than cars.
func shiftedBy(list []int, shift int) []int {
	ring := len(list) + 1
	var moved []int
	for _, wish := range list {
		moved = append(moved, (wish+shift)%ring)
	}
	return moved
}

// placesByFreeOnes returns what PlacesOf should: each car takes one out of the
// places that are left.
func placesByFreeOnes(list []int) []int {
	var free, places []int
	for place := range list {
		free = append(free, place)
	}
	for _, wish := range list {
		at, _ := slices.BinarySearch(free, wish)
		if at == len(free) {
			places = append(places, -1)
			continue
		}
		places = append(places, free[at])
		free = slices.Delete(free, at, at+1)
	}
	return places
}

// parksOnRing returns what ShiftFor should: on a ring of one place more than
// cars each car finds a place, and the one that stays free becomes the last.
func parksOnRing(list []int) int {
	taken := make([]bool, len(list)+1)
	for _, wish := range list {
		for taken[wish] {
			wish = (wish + 1) % len(taken)
		}
		taken[wish] = true
	}
	return len(list) - slices.Index(taken, false)
}

// countOrders returns in how many orders wishes that ascend may stand.
func countOrders(list []int) int {
	orders := factorial(len(list))
	same := map[int]int{}
	for _, wish := range list {
		same[wish]++
		orders /= same[wish]
	}
	return orders
}

// checkNoWishes checks that all functions refuse numbers.
func checkNoWishes(t *testing.T, list []int) {
	t.Helper()
	if impl.ValidWishes(list) {
		t.Errorf("ValidWishes(%v) = true", list)
	}
	if got := impl.PlacesOf(list); got != nil {
		t.Errorf("PlacesOf(%v) = %v", list, got)
	}
	if all, few := impl.AllPark(list), impl.FewWish(list); all || few {
		t.Errorf("AllPark(%v) = %v, FewWish = %v", list, all, few)
	}
	if drift, shift := impl.DriftOf(list), impl.ShiftFor(list); drift != -1 || shift != -1 {
		t.Errorf("DriftOf(%v) = %d, ShiftFor = %d", list, drift, shift)
	}
}

// checkWishCase checks that all functions give what was found by hand.
func checkWishCase(t *testing.T, c wishCase) {
	t.Helper()
	if !impl.ValidWishes(c.list) {
		t.Errorf("ValidWishes(%v) = false", c.list)
	}
	if got := impl.PlacesOf(c.list); !slices.Equal(got, c.places) {
		t.Errorf("PlacesOf(%v) = %v, want %v", c.list, got, c.places)
	}
	if all, few, want := impl.AllPark(c.list), impl.FewWish(c.list), c.drift >= 0; all != want || few != want {
		t.Errorf("AllPark(%v) = %v, FewWish = %v, want %v", c.list, all, few, want)
	}
	if got := impl.DriftOf(c.list); got != c.drift {
		t.Errorf("DriftOf(%v) = %d, want %d", c.list, got, c.drift)
	}
	if got := impl.ShiftFor(c.list); got != c.shift {
		t.Errorf("ShiftFor(%v) = %d, want %d", c.list, got, c.shift)
	}
}

func TestWishCases(t *testing.T) {
	for _, c := range wishCases {
		checkWishCase(t, c)
	}
}

func TestNoWishes(t *testing.T) {
	for _, list := range noWishes {
		checkNoWishes(t, list)
	}
}

func TestParkingLimits(t *testing.T) {
	if impl.MaxCars != 8 || impl.MaxParked != 4 {
		t.Errorf("MaxCars = %d, MaxParked = %d, want 8 and 4", impl.MaxCars, impl.MaxParked)
	}
}

func TestValidWishesOfAllFewNumbers(t *testing.T) {
	for n := range 6 {
		for _, list := range rowsOfNumbers(n, -1, n+1) {
			if slices.Contains(list, -1) || slices.Contains(list, n+1) {
				checkNoWishes(t, list)
			} else if !impl.ValidWishes(list) {
				t.Fatalf("ValidWishes(%v) = false", list)
			}
		}
	}
}

func TestWishesWithOneNumberChanged(t *testing.T) {
	for n := 1; n <= impl.MaxCars; n++ {
		for place := range n {
			for number := -2; number <= n+2; number++ {
				list := make([]int, n)
				list[place] = number
				want := number >= 0 && number <= n
				if got := impl.ValidWishes(list); got != want {
					t.Errorf("ValidWishes(%v) = %v", list, got)
				}
				if !want {
					checkNoWishes(t, list)
				}
			}
		}
	}
}

// Wishes that are all the same: as many cars stand as there are places from the
// wish on, so all of them just for the first place.
func TestWishesThatAreAllTheSame(t *testing.T) {
	for n := 1; n <= impl.MaxCars; n++ {
		for wish := range n + 1 {
			c := wishCase{slices.Repeat([]int{wish}, n), nil, -1, (n + 1 - wish) % (n + 1)}
			for car := range n {
				if wish+car < n {
					c.places = append(c.places, wish+car)
				} else {
					c.places = append(c.places, -1)
				}
			}
			if wish == 0 {
				c.drift = n * (n - 1) / 2
			}
			checkWishCase(t, c)
		}
	}
}

func TestPlacesOf(t *testing.T) {
	for _, list := range everyWishes() {
		if got, want := impl.PlacesOf(list), placesByFreeOnes(list); !slices.Equal(got, want) {
			t.Fatalf("PlacesOf(%v) = %v, want %v", list, got, want)
		}
	}
}

func TestShiftFor(t *testing.T) {
	for _, list := range everyWishes() {
		if got, want := impl.ShiftFor(list), parksOnRing(list); got != want {
			t.Fatalf("ShiftFor(%v) = %d, want %d", list, got, want)
		}
	}
}

func TestCountPark(t *testing.T) {
	for n, want := range parkingCounts {
		if got := impl.CountPark(n); got != want {
			t.Errorf("CountPark(%d) = %d, want %d", n, got, want)
		}
	}
	for _, n := range countsOfNoCars {
		if got := impl.CountPark(n); got != -1 {
			t.Errorf("CountPark(%d) = %d", n, got)
		}
	}
}

func TestParkTried(t *testing.T) {
	for n := range impl.MaxParked + 1 {
		if got, want := impl.ParkTried(n), parkingCounts[n]; got != want {
			t.Errorf("ParkTried(%d) = %d, want %d", n, got, want)
		}
	}
	for _, n := range append([]int{impl.MaxParked + 1, impl.MaxCars}, countsOfNoCars...) {
		if got := impl.ParkTried(n); got != -1 {
			t.Errorf("ParkTried(%d) = %d", n, got)
		}
	}
}

// Promise 41: wishes may be turned.
func TestWishesMayBeTurned(t *testing.T) {
	for _, list := range everyWishes() {
		if !impl.ValidWishes(list) || !impl.ValidWishes(otherWayRound(list)) {
			t.Fatalf("ValidWishes(%v) = %v, the other way round %v", list, impl.ValidWishes(list), impl.ValidWishes(otherWayRound(list)))
		}
	}
}

// Promise 42: cars stand at or behind their wishes. Of a car without a place,
// all from its wish on were taken ahead.
func TestCarsStandAtOrBehindTheirWishes(t *testing.T) {
	for _, list := range everyWishes() {
		places := impl.PlacesOf(list)
		if len(places) != len(list) {
			t.Fatalf("PlacesOf(%v) = %v", list, places)
		}
		for car, place := range places {
			end := place
			if place == -1 {
				end = len(list)
			}
			for between := list[car]; between < end; between++ {
				if !slices.Contains(places[:car], between) {
					t.Fatalf("PlacesOf(%v) = %v, but %d was free for car %d", list, places, between, car)
				}
			}
			if place != -1 && (place < list[car] || place >= len(list) || slices.Contains(places[:car], place)) {
				t.Fatalf("PlacesOf(%v) = %v, with car %d at a wrong place", list, places, car)
			}
		}
	}
}

// Promise 43: all park just if few wish far.
func TestAllParkJustIfFewWishFar(t *testing.T) {
	for _, list := range everyWishes() {
		all, few := impl.AllPark(list), impl.FewWish(list)
		if want := !slices.Contains(placesByFreeOnes(list), -1); all != want || few != want {
			t.Fatalf("AllPark(%v) = %v, FewWish = %v, want %v", list, all, few, want)
		}
		inOrder := ascending(list)
		if impl.AllPark(inOrder) != all || impl.FewWish(inOrder) != few {
			t.Fatalf("AllPark(%v) = %v, FewWish = %v, but in order %v and %v", list, all, few, impl.AllPark(inOrder), impl.FewWish(inOrder))
		}
	}
}

// Promise 44: wishes ascending are at most their places.
func TestWishesAscendingAreAtMostTheirPlaces(t *testing.T) {
	for _, list := range everyWishes() {
		want := true
		for i, wish := range ascending(list) {
			want = want && wish <= i
		}
		if got := impl.FewWish(list); got != want {
			t.Fatalf("FewWish(%v) = %v", list, got)
		}
	}
}

// Promise 45: wishes are counted as trees.
func TestWishesAreCountedAsTrees(t *testing.T) {
	for n := range impl.MaxParked + 1 {
		if count, tried := impl.CountPark(n), impl.ParkTried(n); count != tried {
			t.Errorf("CountPark(%d) = %d, but %d are tried", n, count, tried)
		}
	}
	for n := range impl.MaxNodes {
		if count, trees := impl.CountPark(n), impl.CountTrees(n+1); count != trees {
			t.Errorf("CountPark(%d) = %d, but there are %d trees", n, count, trees)
		}
	}
}

// CountPark is how many wishes all park, also of more cars than are tried: they
// are counted by their orders.
func TestWishesAreCountedByTheirOrders(t *testing.T) {
	for n := range impl.MaxCars + 1 {
		found := 0
		for _, list := range ascendingWishes(n) {
			if impl.AllPark(list) {
				found += countOrders(list)
			}
		}
		if got := impl.CountPark(n); got != found {
			t.Errorf("CountPark(%d) = %d, but %d are found", n, got, found)
		}
	}
}

// Promise 46: what is tried is the rule.
func TestWhatIsTriedIsTheRule(t *testing.T) {
	for n := range impl.MaxParked + 1 {
		found := 0
		for _, list := range rowsOfNumbers(n, 0, n) {
			if !slices.Contains(placesByFreeOnes(list), -1) {
				found++
			}
		}
		if tried, count := impl.ParkTried(n), impl.CountPark(n); tried != count || tried != found {
			t.Errorf("ParkTried(%d) = %d, CountPark = %d, but %d are found", n, tried, count, found)
		}
	}
}

// Promise 47: drift is what is left.
func TestDriftIsWhatIsLeft(t *testing.T) {
	for _, list := range everyWishes() {
		want := -1
		if impl.AllPark(list) {
			want = len(list)*(len(list)-1)/2 - sumOf(list)
		}
		if got := impl.DriftOf(list); got != want {
			t.Fatalf("DriftOf(%v) = %d, want %d", list, got, want)
		}
	}
}

// Promise 48: just one shift parks all.
func TestJustOneShiftParksAll(t *testing.T) {
	for _, list := range everyWishes() {
		found := impl.ShiftFor(list)
		if found < 0 || found > len(list) {
			t.Fatalf("ShiftFor(%v) = %d", list, found)
		}
		for shift := range len(list) + 1 {
			if got := impl.AllPark(shiftedBy(list, shift)); got != (shift == found) {
				t.Fatalf("ShiftFor(%v) = %d, but AllPark with the shift %d = %v", list, found, shift, got)
			}
		}
	}
}

// Promise 79: wishes come round.
func TestWishesComeRound(t *testing.T) {
	for _, list := range everyWishes() {
		moved := shiftedBy(list, impl.ShiftFor(list))
		if got := impl.ShiftFor(moved); got != 0 {
			t.Fatalf("ShiftFor(%v) = %d, but of %v it is %d", list, impl.ShiftFor(list), moved, got)
		}
	}
	for n := range impl.MaxCars + 1 {
		wishes := powerOf(n+1, n)
		if n < 6 {
			wishes = 0
			for _, list := range rowsOfNumbers(n, -1, n+1) {
				if impl.ValidWishes(list) {
					wishes++
				}
			}
		}
		if got := impl.CountPark(n); got*(n+1) != wishes {
			t.Errorf("CountPark(%d) = %d, but there are %d wishes", n, got, wishes)
		}
	}
}

// All goroutines end with the call that started them, also if it has found early
// that not all cars park.
func TestNoCarIsKeptWaiting(t *testing.T) {
	before := runtime.NumGoroutine()
	for range 20 {
		TestWishCases(t)
		TestNoWishes(t)
	}
	impl.ParkTried(impl.MaxParked)
	// One that has sent its last car may still need a moment to end.
	for range 100000 {
		if runtime.NumGoroutine() <= before {
			return
		}
		runtime.Gosched()
	}
	t.Errorf("%d goroutines have become %d", before, runtime.NumGoroutine())
}

func TestParkingAtOnce(t *testing.T) {
	var group sync.WaitGroup
	for range 20 {
		group.Go(func() { TestWishCases(t) })
	}
	group.Wait()
}

func TestParkingResultsAreNew(t *testing.T) {
	for _, c := range wishCases {
		places := impl.PlacesOf(c.list)
		again := impl.PlacesOf(c.list)
		clear(places[:cap(places)])
		if !slices.Equal(again, c.places) {
			t.Errorf("PlacesOf(%v) = %v after other places were cleared", c.list, again)
		}
	}
	TestWishCases(t)
}

func TestWishesStayAsTheyAre(t *testing.T) {
	all := []int{2, 0, 0, 4, 1, 2, 1, 7, 9, 9}
	before := slices.Clone(all)
	for length := range all {
		list := all[:length]
		impl.ValidWishes(list)
		places := impl.PlacesOf(list)
		clear(places[:cap(places)])
		impl.AllPark(list)
		impl.FewWish(list)
		impl.DriftOf(list)
		impl.ShiftFor(list)
	}
	if !slices.Equal(all, before) {
		t.Errorf("numbers %v have become %v", before, all)
	}
}
