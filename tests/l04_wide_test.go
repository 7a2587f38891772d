package tests

import (
	"cmp"
	"math"
	"math/big"
	"math/rand"
	"slices"
	"strconv"
	"strings"
	"testing"

	"loop.example/g00383/impl"
)

const wideBits = 256

// limbsFrom is the wide number of these limbs, the lowest first, and zeros behind them.
func limbsFrom(low ...int64) []int64 {
	limbs := make([]int64, 8)
	copy(limbs, low)
	return limbs
}

// limbAt is the wide number with one limb alone.
func limbAt(at int, n int64) []int64 {
	limbs := make([]int64, 8)
	limbs[at] = n
	return limbs
}

// fullTo has all bits of its lowest count limbs.
func fullTo(count int) []int64 {
	limbs := make([]int64, 8)
	for i := range count {
		limbs[i] = topWord
	}
	return limbs
}

// bigOf tells by the library which number limbs are.
func bigOf(limbs []int64) *big.Int {
	sum := new(big.Int)
	for i, n := range limbs {
		sum.Add(sum, new(big.Int).Lsh(big.NewInt(n), uint(32*i)))
	}
	return sum
}

// limbsOfBig is the wide number of a number of at most 256 bits.
func limbsOfBig(n *big.Int) []int64 {
	limbs := make([]int64, 8)
	for i := range limbs {
		part := new(big.Int).Rsh(n, uint(32*i))
		limbs[i] = part.And(part, big.NewInt(topWord)).Int64()
	}
	return limbs
}

// wideNumbers are numbers around each place where one more limb or bit begins, with zeros within, and some others.
func wideNumbers() [][]int64 {
	list := [][]int64{
		limbsFrom(), limbsFrom(2), limbsFrom(15), limbsFrom(16), limbsFrom(0, 0, 5, 0, 7), limbsFrom(topWord, 0, topWord), limbsFrom(0, topWord), fillWords(8),
		limbsFrom(1, 2, 3, 4, 5, 6, 7, 8), limbsFrom(8, 7, 6, 5, 4, 3, 2, 1), {topWord, 0, topWord, 0, topWord, 0, topWord, 0}, {0, topWord, 0, topWord, 0, topWord, 0, topWord},
	}
	for at := range 8 {
		list = append(list, limbAt(at, 1), limbAt(at, 1<<31), limbAt(at, topWord), fullTo(at+1))
	}
	return list
}

// someWides are chosen by a fixed seed: zeros and full limbs come often, since it is they that hand a carry on.
func someWides(times int) [][]int64 {
	r := rand.New(rand.NewSource(4))
	var list [][]int64
	for range times {
		limbs := make([]int64, 8)
		for i := range 1 + r.Intn(8) {
			limbs[i] = []int64{0, 1, topWord - 1, topWord, int64(r.Uint32())}[r.Intn(5)]
		}
		list = append(list, limbs)
	}
	return list
}

// faultyWides tells lists that are no wide numbers, by the code of each.
func faultyWides() map[int64][][]int64 {
	faulty := map[int64][][]int64{impl.ErrForm: {nil, {}, {0}, {-1}, fillWords(7), fillWords(9), make([]int64, 7), make([]int64, 9), make([]int64, 16), make([]int64, 1<<16)}}
	for _, no := range noWords() {
		for at := range 8 {
			limbs := fillWords(8)
			limbs[at] = no
			faulty[impl.ErrRange] = append(faulty[impl.ErrRange], limbs, limbAt(at, no))
		}
		// How many there are is asked ahead of what they are.
		for _, n := range []int{1, 7, 9} {
			first, last := make([]int64, n), make([]int64, n)
			first[0], last[n-1] = no, no
			faulty[impl.ErrForm] = append(faulty[impl.ErrForm], first, last)
		}
	}
	return faulty
}

func wantWide(t *testing.T, call string, got impl.WideResult, code int64, limbs []int64) {
	t.Helper()
	if got.Code != code || !slices.Equal(got.Limbs, limbs) {
		t.Errorf("%s: %+v, want code %d and %v", call, got, code, limbs)
	}
}

// wantSum: the sum is told in both orders.
func wantSum(t *testing.T, a []int64, b []int64, code int64, sum []int64) {
	t.Helper()
	wantWide(t, "AddWide", impl.AddWide(a, b), code, sum)
	wantWide(t, "AddWide the other way around", impl.AddWide(b, a), code, sum)
}

// wantOrder: both orders tell it, and a number beside itself is the same.
func wantOrder(t *testing.T, a []int64, b []int64, order int64) {
	t.Helper()
	wantInt(t, "CompareWide", impl.CompareWide(a, b), impl.OK, order)
	wantInt(t, "CompareWide the other way around", impl.CompareWide(b, a), impl.OK, -order)
	wantInt(t, "CompareWide of one alone", impl.CompareWide(a, a), impl.OK, 0)
	wantInt(t, "CompareWide of the other alone", impl.CompareWide(b, slices.Clone(b)), impl.OK, 0)
}

func TestP5Constants(t *testing.T) {
	if impl.Limbs != 8 {
		t.Errorf("Limbs is %d", impl.Limbs)
	}
}

func TestP5WideFault(t *testing.T) {
	for _, limbs := range append(wideNumbers(), someWides(50)...) {
		if code := impl.WideFault(limbs); code != impl.OK {
			t.Errorf("WideFault of %v: %d", limbs, code)
		}
	}
	for n := range 20 {
		want := int64(impl.ErrForm)
		if n == 8 {
			want = impl.OK
		}
		if code := impl.WideFault(make([]int64, n)); code != want {
			t.Errorf("WideFault of %d zeros: %d", n, code)
		}
	}
	for at := range 8 {
		for limb, want := range map[int64]int64{-1: impl.ErrRange, 0: impl.OK, 1: impl.OK, topWord - 1: impl.OK, topWord: impl.OK, topWord + 1: impl.ErrRange} {
			limbs := fillWords(8)
			limbs[at] = limb
			if code := impl.WideFault(limbs); code != want {
				t.Errorf("WideFault with %d at %d: %d", limb, at, code)
			}
		}
	}
	for want, lists := range faultyWides() {
		for _, limbs := range lists {
			if code := impl.WideFault(limbs); code != want {
				t.Errorf("WideFault of %d limbs: %d, want %d", len(limbs), code, want)
			}
		}
	}
}

func TestP5WideOf(t *testing.T) {
	known := []struct {
		n     int64
		limbs []int64
	}{
		{0, limbsFrom()}, {1, limbsFrom(1)}, {15, limbsFrom(15)}, {topWord - 1, limbsFrom(topWord - 1)}, {topWord, limbsFrom(topWord)},
		{topWord + 1, limbsFrom(0, 1)}, {topWord + 2, limbsFrom(1, 1)}, {1 << 33, limbsFrom(0, 2)}, {1<<62 + 5, limbsFrom(5, 1<<30)},
		{math.MaxInt64 - 1, limbsFrom(topWord-1, 1<<31-1)}, {math.MaxInt64, limbsFrom(topWord, 1<<31-1)},
	}
	for _, k := range known {
		wantWide(t, "WideOf", impl.WideOf(k.n), impl.OK, k.limbs)
	}
	for bit := range 63 {
		for _, by := range []int64{-1, 0, 1} {
			n := int64(1)<<bit + by
			wantWide(t, "WideOf", impl.WideOf(n), impl.OK, limbsOfBig(big.NewInt(n)))
			wantText(t, "WideText of WideOf", impl.WideText(impl.WideOf(n).Limbs), impl.OK, strconv.FormatInt(n, 16))
		}
	}
	for _, n := range []int64{-1, -2, -topWord, -topWord - 1, -1 << 62, math.MinInt64 + 1, math.MinInt64} {
		wantWide(t, "WideOf below 0", impl.WideOf(n), impl.ErrRange, nil)
	}
}

func TestP5AddWideKnown(t *testing.T) {
	one := limbsFrom(1)
	wantSum(t, limbsFrom(), limbsFrom(), impl.OK, limbsFrom())
	wantSum(t, limbsFrom(2), limbsFrom(3), impl.OK, limbsFrom(5))
	wantSum(t, limbsFrom(topWord), limbsFrom(topWord), impl.OK, limbsFrom(topWord-1, 1))
	wantSum(t, limbsFrom(1<<31), limbsFrom(1<<31), impl.OK, limbsFrom(0, 1))
	wantSum(t, limbsFrom(topWord, 5), one, impl.OK, limbsFrom(0, 6))
	wantSum(t, limbsFrom(topWord, topWord-1), one, impl.OK, limbsFrom(0, topWord))
	wantSum(t, limbsFrom(topWord, topWord, 0, topWord), one, impl.OK, limbsFrom(0, 0, 1, topWord))
	// A carry comes into a limb that is full without it, and into one that goes beyond by itself.
	wantSum(t, limbsFrom(topWord, topWord, 9), limbsFrom(1, 0, 0), impl.OK, limbsFrom(0, 0, 10))
	wantSum(t, limbsFrom(topWord, topWord, 9), limbsFrom(topWord, topWord, 9), impl.OK, limbsFrom(topWord-1, topWord, 19))
	wantSum(t, limbsFrom(1, topWord, 9), limbsFrom(topWord, 1, 9), impl.OK, limbsFrom(0, 1, 19))
	wantSum(t, limbsFrom(1, 2, 3, 4, 5, 6, 7, 8), limbsFrom(10, 20, 30, 40, 50, 60, 70, 80), impl.OK, limbsFrom(11, 22, 33, 44, 55, 66, 77, 88))
	// Through each count of limbs, from each one on.
	for from := range 8 {
		for to := from + 1; to < 8; to++ {
			a, want := make([]int64, 8), make([]int64, 8)
			for i := from; i < to; i++ {
				a[i] = topWord
			}
			want[to] = 1
			wantSum(t, a, limbAt(from, 1), impl.OK, want)
		}
	}
}

func TestP5AddWideFull(t *testing.T) {
	full := fullTo(8)
	wantSum(t, full, limbsFrom(), impl.OK, full)
	wantSum(t, limbAt(7, 1<<31), limbAt(7, 1<<31-1), impl.OK, limbAt(7, topWord))
	wantSum(t, limbAt(7, 1<<31), limbAt(7, 1<<31), impl.ErrFull, nil)
	wantSum(t, full, full, impl.ErrFull, nil)
	wantSum(t, limbAt(7, topWord), limbAt(7, topWord), impl.ErrFull, nil)
	for at := range 8 {
		wantSum(t, full, limbAt(at, 1), impl.ErrFull, nil)
		wantSum(t, full, limbAt(at, topWord), impl.ErrFull, nil)
		// The rest of all 256 bits, and one beyond that.
		part, rest := fullTo(at), fullTo(8)
		for i := range at {
			rest[i] = 0
		}
		wantSum(t, part, rest, impl.OK, full)
		if at > 0 {
			rest[0] = 1
			wantSum(t, part, rest, impl.ErrFull, nil)
		}
	}
	odd, even := []int64{topWord, 0, topWord, 0, topWord, 0, topWord, 0}, []int64{0, topWord, 0, topWord, 0, topWord, 0, topWord}
	wantSum(t, odd, even, impl.OK, full)
	odd[1] = 1
	wantSum(t, odd, even, impl.ErrFull, nil)
}

func TestP5AddWideIsTheSum(t *testing.T) {
	numbers := append(wideNumbers(), someWides(120)...)
	for _, a := range numbers {
		for _, b := range numbers {
			sum := new(big.Int).Add(bigOf(a), bigOf(b))
			if sum.BitLen() > wideBits {
				wantSum(t, a, b, impl.ErrFull, nil)
				continue
			}
			wantSum(t, a, b, impl.OK, limbsOfBig(sum))
		}
	}
}

// sumOf adds from the first on, up to the first code.
func sumOf(first []int64, others ...[]int64) impl.WideResult {
	sum := impl.WideResult{Limbs: first}
	for _, other := range others {
		sum = impl.AddWide(sum.Limbs, other)
		if sum.Code != impl.OK {
			return sum
		}
	}
	return sum
}

func TestP5SumsDoNotHangOnTheirOrder(t *testing.T) {
	numbers := append(wideNumbers(), someWides(20)...)
	for _, a := range numbers {
		for _, b := range numbers {
			for _, c := range numbers {
				sum := sumOf(a, b, c)
				for _, other := range []impl.WideResult{sumOf(a, c, b), sumOf(b, c, a), sumOf(c, b, a)} {
					wantWide(t, "the sum of three in another order", other, sum.Code, sum.Limbs)
				}
				// a and the sum of the other two.
				if right := impl.AddWide(b, c); right.Code == impl.OK {
					wantWide(t, "the sum of one and the other two", impl.AddWide(a, right.Limbs), sum.Code, sum.Limbs)
				} else if sum.Code != right.Code {
					t.Errorf("the sum of three: %+v, that of two of them: %+v", sum, right)
				}
			}
		}
	}
}

func TestP5SumsAreMoreThanWhatTheyAreMadeOf(t *testing.T) {
	numbers := append(wideNumbers(), someWides(60)...)
	for _, a := range numbers {
		for _, b := range numbers {
			sum := impl.AddWide(a, b)
			if sum.Code != impl.OK {
				continue
			}
			more := int64(1)
			if bigOf(b).Sign() == 0 {
				more = 0
			}
			wantOrder(t, sum.Limbs, a, more)
		}
	}
}

// wantFaultsOfTwo asks each pair of which one or both have a fault: that of a comes first.
func wantFaultsOfTwo(t *testing.T, ask func(a []int64, b []int64) (int64, bool)) {
	t.Helper()
	want := func(a []int64, b []int64, code int64) {
		t.Helper()
		if got, empty := ask(a, b); got != code || !empty {
			t.Errorf("of %d and %d limbs: code %d, nothing else is %v; want code %d", len(a), len(b), got, empty, code)
		}
	}
	faulty := faultyWides()
	for code, lists := range faulty {
		for _, a := range lists {
			for _, b := range [][]int64{limbsFrom(), limbsFrom(1), fullTo(8)} {
				want(a, b, code)
				want(b, a, code)
			}
			for _, others := range faulty {
				for _, b := range others {
					want(a, b, code)
				}
			}
		}
	}
}

func TestP5FaultsOfTwo(t *testing.T) {
	wantFaultsOfTwo(t, func(a []int64, b []int64) (int64, bool) {
		got := impl.AddWide(a, b)
		return got.Code, len(got.Limbs) == 0
	})
	wantFaultsOfTwo(t, func(a []int64, b []int64) (int64, bool) {
		got := impl.CompareWide(a, b)
		return got.Code, got.Value == 0
	})
}

func TestP5CompareWideKnown(t *testing.T) {
	wantOrder(t, limbsFrom(), limbsFrom(), 0)
	wantOrder(t, limbsFrom(), limbsFrom(1), -1)
	wantOrder(t, limbsFrom(topWord), limbsFrom(0, 1), -1)
	wantOrder(t, fullTo(8), fullTo(8), 0)
	for at := range 8 {
		// Told by one limb, all others being the same.
		for _, rest := range [][]int64{limbsFrom(), fullTo(8), fillWords(8)} {
			for _, pair := range [][]int64{{0, 1}, {0, topWord}, {topWord - 1, topWord}, {1<<31 - 1, 1 << 31}} {
				a, b := slices.Clone(rest), slices.Clone(rest)
				a[at], b[at] = pair[0], pair[1]
				wantOrder(t, a, b, -1)
			}
		}
		wantOrder(t, fullTo(at), limbAt(at, 1), -1)
		// Limbs that disagree at two places: the higher one tells it.
		for below := range at {
			a, b := fillWords(8), fillWords(8)
			a[at], b[at] = 5, 6
			a[below], b[below] = topWord, 0
			wantOrder(t, a, b, -1)
			a[below], b[below] = 0, topWord
			wantOrder(t, a, b, -1)
		}
	}
}

// textOrder tells of two texts without zeros ahead which number is less.
func textOrder(a string, b string) int {
	if len(a) != len(b) {
		return cmp.Compare(len(a), len(b))
	}
	return cmp.Compare(a, b)
}

func TestP5OneIsLessOrTheyAreTheSame(t *testing.T) {
	numbers := append(wideNumbers(), someWides(120)...)
	for _, a := range numbers {
		for _, b := range numbers {
			order := bigOf(a).Cmp(bigOf(b))
			wantOrder(t, a, b, int64(order))
			if told := textOrder(impl.WideText(a).Text, impl.WideText(b).Text); told != order {
				t.Errorf("the texts of %v and %v tell %d, the numbers %d", a, b, told, order)
			}
		}
	}
}

func TestP5WideTextKnown(t *testing.T) {
	known := []struct {
		limbs []int64
		text  string
	}{
		{limbsFrom(), "0"}, {limbsFrom(1), "1"}, {limbsFrom(9), "9"}, {limbsFrom(10), "a"}, {limbsFrom(15), "f"}, {limbsFrom(16), "10"}, {limbsFrom(255), "ff"}, {limbsFrom(256), "100"},
		{limbsFrom(0x10203), "10203"}, {limbsFrom(0x01234567), "1234567"}, {limbsFrom(0x89abcdef), "89abcdef"}, {limbsFrom(0xf0000000), "f0000000"}, {limbsFrom(topWord), "ffffffff"},
		{limbsFrom(0, 1), "100000000"}, {limbsFrom(1, 1), "100000001"}, {limbsFrom(0xab, 0xcd), "cd000000ab"}, {limbsFrom(0x0fffffff, 2), "20fffffff"},
		{limbsFrom(0, 0, 7), "70000000000000000"}, {limbsFrom(5, 0, 7), "70000000000000005"}, {limbsFrom(0, 5, 7), "70000000500000000"}, {limbsFrom(topWord, 0, topWord), "ffffffff00000000ffffffff"},
		{limbAt(7, 1), "1" + strings.Repeat("0", 56)}, {limbAt(7, 0x10000000), "1" + strings.Repeat("0", 63)}, {limbAt(7, topWord), "ffffffff" + strings.Repeat("0", 56)}, {fullTo(8), strings.Repeat("f", 64)},
		{limbsFrom(8, 7, 6, 5, 4, 3, 2, 1), "100000002000000030000000400000005000000060000000700000008"},
		{limbsFrom(0x89abcdef, 0x01234567, 0x89abcdef, 0x01234567, 0x89abcdef, 0x01234567, 0x89abcdef, 0x01234567), strings.Repeat("0123456789abcdef", 4)[1:]},
	}
	for _, k := range known {
		wantText(t, "WideText", impl.WideText(k.limbs), impl.OK, k.text)
	}
	for want, lists := range faultyWides() {
		for _, limbs := range lists {
			wantText(t, "WideText of no wide number", impl.WideText(limbs), want, "")
		}
	}
}

func TestP5WideTextIsTheNumber(t *testing.T) {
	for _, limbs := range append(wideNumbers(), someWides(500)...) {
		wantText(t, "WideText", impl.WideText(limbs), impl.OK, bigOf(limbs).Text(16))
	}
	// One digit alone, at each place: zeros behind it stay, those ahead of it go.
	for at := range 64 {
		for digit := int64(1); digit < 16; digit++ {
			text := strconv.FormatInt(digit, 16) + strings.Repeat("0", at)
			wantText(t, "WideText of one digit", impl.WideText(limbAt(at/8, digit<<(4*(at%8)))), impl.OK, text)
		}
	}
}
