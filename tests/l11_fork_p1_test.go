package tests

import (
	"math"
	"reflect"
	"slices"
	"testing"

	"loop.example/g00383/impl"
)

// forkArguments are stores of every kind that chapter 11 tells apart, with and without a fault.
func forkArguments(t *testing.T) []impl.Store {
	t.Helper()
	stores := append(storeArguments(t), weighed(1), turnStore(2), turnStore(3), weighed(4, sprout{0, 0}, sprout{1, 0}))
	for seed := range uint64(4) {
		stores = append(stores, someWeighed(seed, 4+5*int(seed), 0, 1, 2))
	}
	return stores
}

// numbersFor are those of a store's headers, and others.
func numbersFor(s impl.Store) []int64 {
	numbers := []int64{math.MinInt64, -1, 0, 1, 300, topNumber, math.MaxInt64}
	for _, e := range s.Entries[:min(6, len(s.Entries))] {
		numbers = append(numbers, e.Header.Number)
	}
	return numbers
}

type forkAnswers struct {
	Better []bool
	Head   impl.IntResult
	Canon  impl.IntsResult
	At     []impl.IntResult
	Common []impl.IntResult
	Turn   []impl.TurnResult
}

// askFork calls each function of chapter 11 with a store.
func askFork(s impl.Store) forkAnswers {
	all := forkAnswers{Head: impl.HeadOf(s), Canon: impl.CanonOf(s)}
	for _, number := range numbersFor(s) {
		all.At = append(all.At, impl.AtNumber(s, number))
	}
	last := int64(len(s.Entries)) - 1
	for _, a := range placesFor(s) {
		for _, b := range []int64{-1, 0, last / 2, last, math.MaxInt64} {
			all.Better = append(all.Better, impl.IsBetter(s, a, b))
			all.Common = append(all.Common, impl.CommonOf(s, a, b))
			all.Turn = append(all.Turn, impl.TurnChain(s, a, b))
		}
	}
	return all
}

func sameTurns(a impl.TurnResult, b impl.TurnResult) bool {
	return a.Code == b.Code && slices.Equal(a.Back, b.Back) && slices.Equal(a.Forth, b.Forth)
}

// sameForkAnswers holds them against each other; nil and empty are the same.
func sameForkAnswers(a forkAnswers, b forkAnswers) bool {
	canon := a.Canon.Code == b.Canon.Code && slices.Equal(a.Canon.List, b.Canon.List)
	numbers := a.Head == b.Head && slices.Equal(a.At, b.At) && slices.Equal(a.Common, b.Common)
	return canon && numbers && slices.Equal(a.Better, b.Better) && slices.EqualFunc(a.Turn, b.Turn, sameTurns)
}

func TestP1ForkAnswersAtEveryArgument(t *testing.T) {
	faults := []int64{impl.ErrForm, impl.ErrMany, impl.ErrRange, impl.ErrNone, impl.ErrTaken, impl.ErrSign, impl.ErrState}
	told := map[int64]bool{}
	for i, s := range forkArguments(t) {
		all, last := askFork(s), int64(len(s.Entries))-1
		fault := storeFaultAs(s)
		told[all.Head.Code] = true
		wantIntOrCode(t, "HeadOf", i, all.Head, last, fault)
		wantLength(t, "CanonOf", i, all.Canon.Code, min(1, len(all.Canon.List)), []int64{fault}, 1)
		if fault != impl.OK && slices.Contains(all.Better, true) {
			t.Errorf("IsBetter at %d: true beside a fault", i)
		}
		for _, r := range all.At {
			wantIntOrCode(t, "AtNumber", i, r, last, fault, impl.ErrNone)
		}
		for at, r := range all.Common {
			wantIntOrCode(t, "CommonOf", i, r, last, fault, impl.ErrRange)
			turn := all.Turn[at]
			if turn.Code != r.Code || turn.Code != impl.OK && !reflect.DeepEqual(turn, impl.TurnResult{Code: r.Code}) {
				t.Errorf("TurnChain at %d: %+v beside %+v", i, turn, r)
			}
			if len(turn.Back)+len(turn.Forth) > len(s.Entries) {
				t.Errorf("TurnChain at %d: %+v of %d entries", i, turn, len(s.Entries))
			}
		}
	}
	for _, code := range append(faults, impl.OK) {
		if !told[code] {
			t.Errorf("the code %d is never told", code)
		}
	}
}

func TestP1ForkHangsOnTheArgumentsAlone(t *testing.T) {
	for i, s := range forkArguments(t) {
		first := askFork(s)
		if !reflect.DeepEqual(first, askFork(s)) {
			t.Errorf("the store at %d is answered otherwise another time", i)
		}
		for call, other := range map[string]impl.Store{"in other memory": cloneStore(s), "with room behind it": roomyStore(s), "with what is empty, not nil": emptiedStore(s)} {
			if !sameForkAnswers(first, askFork(other)) {
				t.Errorf("the store at %d is answered otherwise %s", i, call)
			}
		}
	}
}

// Asked in other company each is answered the same.
func TestP1ForkAnswersTheSameBehindOthers(t *testing.T) {
	s := turnStore(9)
	first := askFork(s)
	for i, other := range forkArguments(t) {
		askFork(other)
		if i%8 == 0 && !sameForkAnswers(first, askFork(s)) {
			t.Errorf("behind the store at %d another one is answered otherwise", i)
		}
	}
	if !sameForkAnswers(first, askFork(s)) {
		t.Error("behind all others a store is answered otherwise")
	}
}

func TestP1ForkAnswersSideBySide(t *testing.T) {
	wantSideBySide(t, 20, func(i int) func() bool {
		s := someWeighed(uint64(i), 8+2*i, 0, 1, 2)
		last := len(s.Entries) - 1
		head, canon := rankedAs(s)[0], canonAs(s)
		back, common, forth := turnAs(s, last, int(head))
		number := s.Entries[head].Header.Number
		return func() bool {
			same := impl.HeadOf(s) == impl.IntResult{Value: head} && slices.Equal(impl.CanonOf(s).List, canon)
			same = same && impl.AtNumber(s, number) == impl.IntResult{Value: head} && impl.CommonOf(s, int64(last), head) == impl.IntResult{Value: common}
			same = same && impl.IsBetter(s, head, int64(last)) == (head != int64(last)) && !impl.IsBetter(s, int64(last), head)
			return same && sameTurns(impl.TurnChain(s, int64(last), head), impl.TurnResult{Back: back, Forth: forth})
		}
	})
}

func TestP1ForkChangesNoArgument(t *testing.T) {
	for i, s := range forkArguments(t) {
		shown := roomyStore(s)
		before := wholeStore(shown)
		askFork(shown)
		if !reflect.DeepEqual(wholeStore(shown), before) {
			t.Errorf("the store at %d, or what is behind it, was changed", i)
		}
	}
	for _, mode := range modes() {
		s, _ := entwinedStore(t, mode)
		plain := cloneStore(s)
		askFork(s)
		if !equalStores(s, plain) {
			t.Error("a store of one memory was changed")
		}
	}
}

// wantTurnsApart: Back that was told is changed, and then Forth, the room behind them too; nothing else is.
func wantTurnsApart(t *testing.T, ask func() impl.TurnResult, back []int64, forth []int64) {
	t.Helper()
	one, two, three := ask(), ask(), ask()
	_ = append(one.Back, 77, 77)
	spoil(one.Back, 77)
	if !slices.Equal(one.Forth, forth) {
		t.Errorf("TurnChain: Forth is changed with Back: %+v", one)
	}
	_ = append(two.Forth, 77, 77)
	spoil(two.Forth, 77)
	if !slices.Equal(two.Back, back) {
		t.Errorf("TurnChain: Back is changed with Forth: %+v", two)
	}
	wantTurn(t, "TurnChain beside a changed answer", three, impl.OK, back, forth)
	wantTurn(t, "TurnChain behind a changed answer", ask(), impl.OK, back, forth)
}

func TestP1ForkSharesNoMemory(t *testing.T) {
	stores := []impl.Store{weighed(1), turnStore(2), turnStore(3), someWeighed(5, 9, 0, 1, 2), looseStore(rare(1), someHeader(), lineUps(6)...)}
	for i, plain := range stores {
		s := roomyStore(plain)
		before := wholeStore(s)
		wantIntsApart(t, "CanonOf", func() impl.IntsResult { return impl.CanonOf(s) }, canonAs(plain))
		for from := range s.Entries {
			for to := range s.Entries {
				back, _, forth := turnAs(plain, from, to)
				wantTurnsApart(t, func() impl.TurnResult { return impl.TurnChain(s, int64(from), int64(to)) }, back, forth)
			}
		}
		if !reflect.DeepEqual(wholeStore(s), before) {
			t.Errorf("the store at %d is changed with an answer", i)
		}
	}
}

func TestP1ForkAnswersDoNotFollowTheirArguments(t *testing.T) {
	for _, plain := range []impl.Store{turnStore(2), someWeighed(5, 9, 0, 1, 2)} {
		for from := range plain.Entries {
			for to := range plain.Entries {
				s := cloneStore(plain)
				canon, turn := impl.CanonOf(s), impl.TurnChain(s, int64(from), int64(to))
				spoilStore(s)
				back, _, forth := turnAs(plain, from, to)
				wantInts(t, "CanonOf, its argument changed since", canon, impl.OK, canonAs(plain))
				wantTurn(t, "TurnChain, its argument changed since", turn, impl.OK, back, forth)
			}
		}
	}
}
