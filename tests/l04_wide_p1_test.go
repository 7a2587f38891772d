package tests

import (
	"math"
	"reflect"
	"slices"
	"testing"

	"loop.example/g00383/impl"
)

// wideArguments are lists of every kind that chapter 4 tells apart, with and without a fault.
func wideArguments() [][]int64 {
	list := append(wideNumbers(), nil, []int64{}, []int64{-1}, fillWords(7), fillWords(9), make([]int64, 1<<16))
	for _, no := range noWords() {
		first, last := fillWords(8), fillWords(8)
		first[0], last[7] = no, no
		list = append(list, first, last)
	}
	return list
}

func wideOfArguments() []int64 {
	return append(noWords(), 0, 1, 15, 16, 1<<31, topWord, 1<<62, math.MaxInt64-1)
}

type wideAnswers struct {
	Fault   []int64
	Of      []impl.WideResult
	Sum     []impl.WideResult
	Compare []impl.IntResult
	Text    []impl.TextResult
}

// askWide calls each function of chapter 4 with each argument, and with each two of them.
func askWide(lists [][]int64, numbers []int64) wideAnswers {
	var all wideAnswers
	for _, a := range lists {
		all.Fault = append(all.Fault, impl.WideFault(a))
		all.Text = append(all.Text, impl.WideText(a))
		for _, b := range lists {
			all.Sum = append(all.Sum, impl.AddWide(a, b))
			all.Compare = append(all.Compare, impl.CompareWide(a, b))
		}
	}
	for _, n := range numbers {
		all.Of = append(all.Of, impl.WideOf(n))
	}
	return all
}

func TestP1WideAnswersAtEveryArgument(t *testing.T) {
	all := askWide(wideArguments(), wideOfArguments())
	faults := []int64{impl.ErrForm, impl.ErrRange}
	for i, code := range all.Fault {
		if code != impl.OK && !slices.Contains(faults, code) {
			t.Errorf("WideFault at %d: %d", i, code)
		}
	}
	for i, r := range all.Of {
		wantLength(t, "WideOf", i, r.Code, len(r.Limbs), []int64{impl.ErrRange}, 8)
	}
	for i, r := range all.Sum {
		wantLength(t, "AddWide", i, r.Code, len(r.Limbs), append(faults, impl.ErrFull), 8)
		if r.Code == impl.OK && impl.WideFault(r.Limbs) != impl.OK {
			t.Errorf("AddWide at %d: %v", i, r.Limbs)
		}
	}
	for i, r := range all.Compare {
		if r.Code == impl.OK && (r.Value < -1 || r.Value > 1) || r.Code != impl.OK && (!slices.Contains(faults, r.Code) || r.Value != 0) {
			t.Errorf("CompareWide at %d: %+v", i, r)
		}
	}
	for i, r := range all.Text {
		wantLength(t, "WideText", i, r.Code, min(len(r.Text), 1), faults, 1)
	}
}

func TestP1WideHangsOnTheArgumentsAlone(t *testing.T) {
	first := askWide(wideArguments(), wideOfArguments())
	again := askWide(wideArguments(), wideOfArguments())
	if !reflect.DeepEqual(first, again) {
		t.Error("the same arguments are answered otherwise the second time")
	}
	if !reflect.DeepEqual(first, askWide(allWithRoom(wideArguments(), 7), wideOfArguments())) {
		t.Error("an answer hangs on what is behind an argument")
	}
	// Seven limbs stay seven, where the memory behind them would make them eight.
	if code := impl.WideFault(make([]int64, 8)[:7]); code != impl.ErrForm {
		t.Errorf("WideFault of seven limbs with room for more: %d", code)
	}
}

func TestP1WideAnswersSideBySide(t *testing.T) {
	wantSideBySide(t, 5000, func(i int) func() bool {
		a, b := fullTo(i), limbsFrom(int64(i+1))
		sum, text, order, number := impl.AddWide(a, b), impl.WideText(a).Text, impl.CompareWide(a, b), impl.WideOf(int64(i)<<40)
		return func() bool {
			same := reflect.DeepEqual(impl.AddWide(a, b), sum) && impl.WideText(a).Text == text
			return same && impl.CompareWide(a, b) == order && slices.Equal(impl.WideOf(int64(i)<<40).Limbs, number.Limbs)
		}
	})
}

func TestP1WideChangesNoArgument(t *testing.T) {
	wantUnchanged(t, wideArguments(), 9, func(a []int64) {
		askWide([][]int64{a, limbsFrom(), limbsFrom(1), fullTo(8), fillWords(7)}, nil)
	})
}

// wantApart: what is done to one answer, or to the room behind it, is seen in no other.
func wantApart(t *testing.T, call string, ask func() []int64) {
	t.Helper()
	one, two := ask(), ask()
	kept := slices.Clone(two)
	_ = append(one, 77, 77, 77)
	spoil(one, 77)
	if !slices.Equal(two, kept) || !slices.Equal(ask(), kept) {
		t.Errorf("%s: an answer is changed with another one", call)
	}
}

func TestP1WideAnswersShareNoMemory(t *testing.T) {
	for _, n := range []int64{0, 1, topWord, math.MaxInt64} {
		wantApart(t, "WideOf", func() []int64 { return impl.WideOf(n).Limbs })
	}
	for _, limbs := range [][]int64{limbsFrom(), limbsFrom(1), fullTo(7), fillWords(8)} {
		// Beside 0 a sum is the other one, but in memory of its own.
		for _, other := range [][]int64{limbsFrom(), limbsFrom(1)} {
			a, b := withRoom(limbs, 9), withRoom(other, 9)
			wantApart(t, "AddWide", func() []int64 { return impl.AddWide(a, b).Limbs })
			wantApart(t, "AddWide the other way around", func() []int64 { return impl.AddWide(b, a).Limbs })
			if !slices.Equal(a, limbs) || !slices.Equal(b, other) || a[:9][8] != 9 || b[:9][8] != 9 {
				t.Error("an argument is changed with an answer")
			}
		}
	}
	half := limbsFrom(5, 6, 7)
	wantApart(t, "AddWide of one and itself", func() []int64 { return impl.AddWide(half, half).Limbs })
	if !slices.Equal(half, limbsFrom(5, 6, 7)) {
		t.Error("what was added to itself is changed")
	}
}

func TestP1WideAnswersDoNotFollowTheirArguments(t *testing.T) {
	for _, other := range [][]int64{limbsFrom(), limbsFrom(1)} {
		a, b := limbsFrom(1, 2, 3), slices.Clone(other)
		sum, around, text := impl.AddWide(a, b), impl.AddWide(b, a), impl.WideText(a)
		kept := limbsFrom(1+other[0], 2, 3)
		spoil(a, 77)
		spoil(b, 77)
		wantWide(t, "AddWide, its arguments changed since", sum, impl.OK, kept)
		wantWide(t, "AddWide the other way around, its arguments changed since", around, impl.OK, kept)
		wantText(t, "WideText, its argument changed since", text, impl.OK, "30000000200000001")
	}
}
