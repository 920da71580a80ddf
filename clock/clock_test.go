package clock_test

import (
	"math"
	"math/big"
	"math/rand"
	"slices"
	"testing"

	"chartroom/api"
	"chartroom/clock"
)

const top = math.MaxUint64

// edges are numbers at which sums, and what is past, change.
func edges() []uint64 { return []uint64{0, 1, 2, 5, 1<<63 - 1, 1 << 63, top - 1, top} }

// each goes over all lists of up to most of l's items.
func each[T any](most int, l []T, do func([]T)) {
	var grow func([]T)
	grow = func(have []T) {
		do(slices.Clone(have))
		if len(have) == most {
			return
		}
		for _, x := range l {
			grow(append(slices.Clone(have), x))
		}
	}
	grow(nil)
}

func number(n uint64) *big.Int { return new(big.Int).SetUint64(n) }

// together is a sum that no bound stops.
func together(l ...uint64) *big.Int {
	all := new(big.Int)
	for _, n := range l {
		all.Add(all, number(n))
	}
	return all
}

// sum is all together by the words: above 2^64-1 it is that.
func sum(l ...uint64) uint64 {
	all := together(l...)
	if !all.IsUint64() {
		return top
	}
	return all.Uint64()
}

// past tells by the words whether something is past.
func past(c, until, s uint64) bool {
	bound := together(until, s)
	return bound.IsUint64() && number(c).Cmp(bound) > 0
}

// skew is that of hands by the words.
func skew(hands []uint64) uint64 {
	if len(hands) == 0 {
		return 0
	}
	return slices.Max(hands) - slices.Min(hands)
}

// nowhere are places of which n processes have none.
func nowhere(n int) []int {
	return []int{-1, -2, math.MinInt, n, n + 1, n + 64, math.MaxInt}
}

// check holds all that clocks answer against the hands that they should have.
func check(t *testing.T, what string, c *clock.Clocks, hands ...uint64) {
	t.Helper()
	if got := c.Hands(); !slices.Equal(got, hands) {
		t.Fatalf("%s: Hands %d; want %d", what, got, hands)
	}
	for p, hand := range hands {
		if got := c.Read(p); got != hand {
			t.Fatalf("%s: Read(%d) %d; want %d", what, p, got, hand)
		}
	}
	for _, p := range nowhere(len(hands)) {
		if got := c.Read(p); got != 0 {
			t.Fatalf("%s: Read(%d) %d; want 0", what, p, got)
		}
	}
	checkSkew(t, what, c, skew(hands))
}

func checkSkew(t *testing.T, what string, c *clock.Clocks, want uint64) {
	t.Helper()
	if got := c.Skew(); got != want {
		t.Fatalf("%s: Skew %d; want %d", what, got, want)
	}
	for _, s := range append(edges(), want, sum(want, 1), want-min(want, 1)) {
		if got := c.Within(s); got != (want <= s) {
			t.Fatalf("%s: Within(%d) %t; the skew is %d", what, s, got, want)
		}
	}
}

func checkTick(t *testing.T, c *clock.Clocks, p int, by uint64, want api.Errno) {
	t.Helper()
	if got := c.Tick(p, by); got != want {
		t.Fatalf("Tick(%d, %d): %d; want %d", p, by, got, want)
	}
}

// P12.1, P12.2, P12.3
func TestExamples(t *testing.T) {
	c := clock.Of(5, 9, 7)
	check(t, "Of", c, 5, 9, 7)
	if c.Skew() != 4 || c.Within(3) || !c.Within(4) {
		t.Errorf("Skew %d, Within(3) %t, Within(4) %t", c.Skew(), c.Within(3), c.Within(4))
	}
	checkTick(t, c, 0, top, api.OK)
	checkTick(t, c, 3, 1, api.ErrArg)
	check(t, "Tick", c, top, 9, 7)
	for _, x := range []struct {
		clock, until, s uint64
		want            bool
	}{{11, 5, 5, true}, {10, 5, 5, false}, {top, top, 1, false}} {
		if got := clock.Past(x.clock, x.until, x.s); got != x.want {
			t.Errorf("Past(%d, %d, %d): %t", x.clock, x.until, x.s, got)
		}
	}
}

// P12.1
func TestNew(t *testing.T) {
	for n := range 70 {
		check(t, "New", clock.New(n), make([]uint64, n)...)
	}
	check(t, "New of many", clock.New(100000), make([]uint64, 100000)...)
	for _, n := range []int{0, -1, -2, -64, math.MinInt} {
		c := clock.New(n)
		if c == nil {
			t.Fatalf("New(%d) is nil", n)
		}
		check(t, "New of none", c)
		checkTick(t, c, 0, 1, api.ErrArg)
	}
}

// P12.1
func TestOf(t *testing.T) {
	each(4, edges(), func(hands []uint64) {
		check(t, "Of", clock.Of(hands...), hands...)
	})
	for _, c := range []*clock.Clocks{clock.Of(), clock.Of(nil...), clock.Of([]uint64{}...)} {
		if c == nil {
			t.Fatal("Of none is nil")
		}
		check(t, "Of none", c)
		checkTick(t, c, 0, 1, api.ErrArg)
	}
}

// P12.1: only that hand goes on, by just so much, and no further than to the greatest number.
func TestTick(t *testing.T) {
	each(3, edges(), func(hands []uint64) {
		for p := range hands {
			for _, by := range edges() {
				c := clock.Of(hands...)
				checkTick(t, c, p, by, api.OK)
				want := slices.Clone(hands)
				want[p] = sum(hands[p], by)
				check(t, "Tick", c, want...)
			}
		}
	})
}

// P12.1
func TestTickAgain(t *testing.T) {
	c := clock.New(2)
	for _, x := range []struct{ by, want uint64 }{{0, 0}, {1, 1}, {2, 3}, {0, 3}, {top - 4, top - 1}, {0, top - 1}, {1, top}, {0, top}, {1, top}, {top, top}} {
		checkTick(t, c, 1, x.by, api.OK)
		check(t, "Tick", c, 0, x.want)
	}
}

// P12.1: where there is no process, nothing goes on.
func TestTickOfNoProcess(t *testing.T) {
	for n := range 5 {
		hands := []uint64{3, 0, top, 7}[:n]
		c := clock.Of(hands...)
		for _, p := range nowhere(n) {
			for _, by := range edges() {
				checkTick(t, c, p, by, api.ErrArg)
			}
		}
		check(t, "Tick", c, hands...)
	}
}

// P12.1, P12.2, P12.5: any rows of Ticks, against hands that go on by the words.
func TestRowsOfTicks(t *testing.T) {
	r := rand.New(rand.NewSource(12))
	for range 300 {
		hands := make([]uint64, r.Intn(8))
		c := clock.New(len(hands))
		for range 60 {
			p, by := r.Intn(len(hands)+2)-1, step(r)
			if p < 0 || p == len(hands) {
				checkTick(t, c, p, by, api.ErrArg)
			} else {
				checkTick(t, c, p, by, api.OK)
				hands[p] = sum(hands[p], by)
			}
			check(t, "Tick", c, hands...)
		}
	}
}

// step is how much a clock goes on by: mostly little.
func step(r *rand.Rand) uint64 {
	switch r.Intn(12) {
	case 0:
		return edges()[r.Intn(len(edges()))]
	case 1:
		return r.Uint64()
	}
	return uint64(r.Intn(10))
}

// P12.2
func TestSkew(t *testing.T) {
	for i, x := range []struct {
		hands []uint64
		want  uint64
	}{
		{nil, 0}, {[]uint64{7}, 0}, {[]uint64{top}, 0}, {[]uint64{4, 4, 4}, 0},
		{[]uint64{1, 2}, 1}, {[]uint64{2, 1}, 1}, {[]uint64{5, 9, 7}, 4}, {[]uint64{9, 7, 5}, 4}, {[]uint64{7, 5, 9}, 4},
		{[]uint64{0, top}, top}, {[]uint64{top, 0}, top}, {[]uint64{top, 1, top}, top - 1}, {[]uint64{1 << 63, 1<<63 - 1}, 1},
	} {
		c := clock.Of(x.hands...)
		if got := c.Skew(); got != x.want {
			t.Errorf("%d: %d; want %d", i, got, x.want)
		}
		checkSkew(t, "Of", c, x.want)
	}
	if c := clock.Of(0, top); c.Within(top-1) || !c.Within(top) {
		t.Error("Within of the greatest skew")
	}
	if c := clock.Of(6, 6); !c.Within(0) {
		t.Error("Within(0) of no skew")
	}
}

// P12.3
func TestSum(t *testing.T) {
	for i, x := range []struct {
		l    []uint64
		want uint64
	}{
		{nil, 0}, {[]uint64{}, 0}, {[]uint64{0}, 0}, {[]uint64{7}, 7}, {[]uint64{top}, top}, {[]uint64{1, 2, 3, 4}, 10},
		{[]uint64{top - 1, 1}, top}, {[]uint64{1, top - 1}, top}, {[]uint64{top - 1, 2}, top}, {[]uint64{2, top - 1}, top},
		{[]uint64{1 << 63, 1<<63 - 1}, top}, {[]uint64{1 << 63, 1 << 63}, top}, {[]uint64{1 << 63, 1 << 63, 5}, top},
		{[]uint64{top, top, top, top}, top}, {[]uint64{top, 0, 1, 0}, top},
	} {
		if got := clock.Sum(x.l...); got != x.want {
			t.Errorf("%d: %d; want %d", i, got, x.want)
		}
	}
	each(5, edges(), func(l []uint64) {
		if got := clock.Sum(l...); got != sum(l...) {
			t.Fatalf("Sum(%d): %d; want %d", l, got, sum(l...))
		}
	})
	many := slices.Repeat([]uint64{1 << 47}, 1<<17-1)
	if got := clock.Sum(many...); got != 1<<64-1<<47 {
		t.Errorf("Sum of many: %d", got)
	}
	if got := clock.Sum(append(many, 1<<47)...); got != top {
		t.Errorf("Sum of one more: %d", got)
	}
}

func checkPast(t *testing.T, c, until, s uint64) {
	t.Helper()
	if got, want := clock.Past(c, until, s), past(c, until, s); got != want {
		t.Errorf("Past(%d, %d, %d): %t; want %t", c, until, s, got, want)
	}
}

// P12.3
func TestPast(t *testing.T) {
	for c := range uint64(20) {
		for until := range uint64(10) {
			for s := range uint64(10) {
				checkPast(t, c, until, s)
			}
		}
	}
	each(3, edges(), func(l []uint64) {
		if len(l) == 3 {
			checkPast(t, l[0], l[1], l[2])
		}
	})
}

// P12.3: just at the bound, and one past it; never, if that is above the greatest number.
func TestPastAtTheBound(t *testing.T) {
	r := rand.New(rand.NewSource(3))
	for range 5000 {
		until, s := r.Uint64()>>r.Intn(64), r.Uint64()>>r.Intn(64)
		bound := sum(until, s)
		for _, c := range []uint64{bound - min(bound, 1), bound, sum(bound, 1), until, s, top} {
			checkPast(t, c, until, s)
		}
	}
	for _, until := range edges() {
		if clock.Past(top, until, top-until) || clock.Past(top, until, sum(top-until, 1)) {
			t.Errorf("Past(top, %d, ..) at the greatest number", until)
		}
		if until < top && !clock.Past(top, until, top-until-1) {
			t.Errorf("Past(top, %d, ..) one below the greatest number", until)
		}
	}
}

// P12.1, P12.2
func TestNil(t *testing.T) {
	var none *clock.Clocks
	for _, p := range append(nowhere(1), 0) {
		for _, by := range edges() {
			checkTick(t, none, p, by, api.ErrNil)
		}
		if got := none.Read(p); got != 0 {
			t.Errorf("Read(%d) of nil: %d", p, got)
		}
	}
	if got := none.Hands(); len(got) != 0 {
		t.Errorf("Hands of nil: %d", got)
	}
	if got := none.Skew(); got != 0 {
		t.Errorf("Skew of nil: %d", got)
	}
	for _, s := range edges() {
		if !none.Within(s) {
			t.Errorf("Within(%d) of nil", s)
		}
	}
}

// P12.1, P12.2: clocks made by hand are of none.
func TestClocksMadeByHand(t *testing.T) {
	c := &clock.Clocks{}
	check(t, "by hand", c)
	checkTick(t, c, 0, 1, api.ErrArg)
	check(t, "by hand", c)
}

// P12.4: what is handed in, what lies behind it included, is as it was.
func TestOnlyRead(t *testing.T) {
	room := []uint64{4, 2, 9, 77, 78, 79}
	own := room[:3]
	c := clock.Of(own...)
	checkTick(t, c, 0, 5, api.OK)
	checkTick(t, c, 3, 5, api.ErrArg)
	c.Skew()
	c.Within(3)
	clock.Sum(own...)
	if !slices.Equal(room, []uint64{4, 2, 9, 77, 78, 79}) {
		t.Errorf("what was handed in is %d", room)
	}
	check(t, "Of", c, 9, 2, 9)
}

// P12.4: what is handed in is not kept.
func TestNotKept(t *testing.T) {
	own := []uint64{4, 2, 9}
	a, b := clock.Of(own...), clock.Of(own...)
	clear(own)
	check(t, "Of", a, 4, 2, 9)
	checkTick(t, a, 1, 3, api.OK)
	check(t, "one", a, 4, 5, 9)
	check(t, "the other one", b, 4, 2, 9)
}

// P12.4: what was answered can be changed, and put more to, without anything else being so; and stays as it is.
func TestNewMemory(t *testing.T) {
	c := clock.Of(4, 2, 9)
	one, other := c.Hands(), c.Hands()
	clear(one)
	_ = append(one, 1, 2, 3)
	check(t, "one changed", c, 4, 2, 9)
	checkTick(t, c, 2, 1, api.OK)
	if !slices.Equal(other, []uint64{4, 2, 9}) {
		t.Errorf("the other one is %d", other)
	}
	d := clock.Of(c.Hands()...)
	checkTick(t, d, 0, 1, api.OK)
	check(t, "what they were made of", c, 4, 2, 10)
	check(t, "new ones", clock.New(2), 0, 0)
	first, second := clock.New(2), clock.New(2)
	checkTick(t, first, 0, 1, api.OK)
	check(t, "another new one", second, 0, 0)
}

// P12.5
func TestNoHandFalls(t *testing.T) {
	r := rand.New(rand.NewSource(5))
	for range 200 {
		c := clock.Of(r.Uint64(), top-step(r), step(r), 0)
		for range 50 {
			then := c.Hands()
			c.Tick(r.Intn(6)-1, step(r))
			c.Within(step(r))
			for p, hand := range c.Hands() {
				if hand < then[p] {
					t.Fatalf("the hand %d fell from %d to %d", p, then[p], hand)
				}
			}
		}
	}
}

// P12.5: what is past stays so while clocks go on.
func TestPastForEveryGreaterClock(t *testing.T) {
	each(4, edges(), func(l []uint64) {
		if len(l) < 4 || l[0] > l[1] {
			return
		}
		if clock.Past(l[0], l[2], l[3]) && !clock.Past(l[1], l[2], l[3]) {
			t.Errorf("past (%d, %d) for %d, but not for %d", l[2], l[3], l[0], l[1])
		}
	})
}

// P12.5: what is past for one of clocks that are within s lies behind for all; and no sooner than it must.
func TestPastLiesBehindForAll(t *testing.T) {
	each(3, edges(), func(hands []uint64) {
		c := clock.Of(hands...)
		for _, s := range append(edges(), c.Skew()) {
			for _, until := range edges() {
				checkBehind(t, c, until, s)
			}
		}
	})
	if !clock.Past(8, 4, 3) || clock.Past(7, 4, 3) {
		t.Error("a clock that is 3 behind may be at the bound, if this one is 3 above it, and is past it if 4 above")
	}
}

func checkBehind(t *testing.T, c *clock.Clocks, until, s uint64) {
	t.Helper()
	hands := c.Hands()
	if !c.Within(s) || !slices.ContainsFunc(hands, func(hand uint64) bool { return clock.Past(hand, until, s) }) {
		return
	}
	if slices.Min(hands) <= until {
		t.Errorf("past (%d, %d) for one of %d, but not behind for all", until, s, hands)
	}
}
