package tests

import (
	"slices"
	"testing"

	"loop.example/g00383/impl"
)

// reversed is the same list, the last one first.
func reversed(list []int64) []int64 {
	list = slices.Clone(list)
	slices.Reverse(list)
	return list
}

// Written out: 1, 2 and 3 are a line behind the first entry; 4 and 5 part from it behind 1, 6 and 7 at the first entry, 8 behind 2.
func turnStore(mark byte) impl.Store {
	return weighed(mark, sprout{0, 1}, sprout{1, 2}, sprout{2, 1}, sprout{1, 1}, sprout{4, 1}, sprout{0, 1}, sprout{6, 0}, sprout{2, 1})
}

func TestP12CommonOfAndTurnChainWrittenOut(t *testing.T) {
	for mark := range byte(4) {
		s := turnStore(mark)
		for _, row := range []struct {
			from, to, common int64
			back, forth      []int64
		}{
			{0, 0, 0, nil, nil},
			{3, 3, 3, nil, nil},
			{8, 8, 8, nil, nil},
			// One is in the line of the other.
			{0, 3, 0, nil, []int64{1, 2, 3}},
			{3, 0, 0, []int64{3, 2, 1}, nil},
			{1, 3, 1, nil, []int64{2, 3}},
			{2, 3, 2, nil, []int64{3}},
			{3, 1, 1, []int64{3, 2}, nil},
			{5, 1, 1, []int64{5, 4}, nil},
			{6, 7, 6, nil, []int64{7}},
			// They part at the first entry.
			{3, 7, 0, []int64{3, 2, 1}, []int64{6, 7}},
			{7, 3, 0, []int64{7, 6}, []int64{1, 2, 3}},
			{1, 6, 0, []int64{1}, []int64{6}},
			{6, 1, 0, []int64{6}, []int64{1}},
			{7, 8, 0, []int64{7, 6}, []int64{1, 2, 8}},
			// They part later.
			{3, 5, 1, []int64{3, 2}, []int64{4, 5}},
			{5, 3, 1, []int64{5, 4}, []int64{2, 3}},
			{2, 5, 1, []int64{2}, []int64{4, 5}},
			{5, 2, 1, []int64{5, 4}, []int64{2}},
			{3, 8, 2, []int64{3}, []int64{8}},
			{8, 3, 2, []int64{8}, []int64{3}},
			{8, 4, 1, []int64{8, 2}, []int64{4}},
		} {
			wantInt(t, "CommonOf what is written out", impl.CommonOf(s, row.from, row.to), impl.OK, row.common)
			wantTurn(t, "TurnChain of what is written out", impl.TurnChain(s, row.from, row.to), impl.OK, row.back, row.forth)
		}
	}
}

// The last place that both lines have, and none behind it is in both.
func TestP12CommonOf(t *testing.T) {
	for _, s := range pairStores(t) {
		for a := range s.Entries {
			line := lineAs(s, a)
			for b := range s.Entries {
				var both []int64
				for _, place := range lineAs(s, b) {
					if slices.Contains(line, place) {
						both = append(both, place)
					}
				}
				wantInt(t, "CommonOf", impl.CommonOf(s, int64(a), int64(b)), impl.OK, both[len(both)-1])
			}
			// With each of its own line, each way round.
			for _, place := range line {
				wantInt(t, "CommonOf one and one ahead of it", impl.CommonOf(s, int64(a), place), impl.OK, place)
				wantInt(t, "CommonOf one and one behind it", impl.CommonOf(s, place, int64(a)), impl.OK, place)
			}
		}
	}
}

// wantWay: one entry at a time, from Up to Up back to what both have, and then forth to the other one.
func wantWay(t *testing.T, s impl.Store, from int64, to int64, got impl.TurnResult) {
	t.Helper()
	at := from
	for _, place := range got.Back {
		if place != at {
			t.Fatalf("from %d to %d: back at %d, not at %d: %+v", from, to, at, place, got)
		}
		at = s.Entries[place].Up
	}
	wantInt(t, "CommonOf where it turns", impl.CommonOf(s, from, to), impl.OK, at)
	for _, place := range got.Forth {
		if s.Entries[place].Up != at || slices.Contains(got.Back, place) {
			t.Fatalf("from %d to %d: forth from %d to %d: %+v", from, to, at, place, got)
		}
		at = place
	}
	if at != to {
		t.Fatalf("from %d to %d it comes to %d: %+v", from, to, at, got)
	}
}

func TestP12TurnChain(t *testing.T) {
	for _, s := range pairStores(t) {
		for from := range s.Entries {
			for to := range s.Entries {
				back, _, forth := turnAs(s, from, to)
				got := impl.TurnChain(s, int64(from), int64(to))
				wantTurn(t, "TurnChain", got, impl.OK, back, forth)
				wantWay(t, s, int64(from), int64(to), got)
				wantTurn(t, "TurnChain the other way", impl.TurnChain(s, int64(to), int64(from)), impl.OK, reversed(forth), reversed(back))
			}
			wantTurn(t, "TurnChain of one and itself", impl.TurnChain(s, int64(from), int64(from)), impl.OK, nil, nil)
		}
	}
}

// From one head to the next one: what is left of the chain that counted, and what is behind it, is the chain that counts.
func TestP12TurnChainFromHeadToHead(t *testing.T) {
	for _, s := range forkStores(t) {
		for count := 1; count < len(s.Entries); count++ {
			before := impl.Store{Config: s.Config, Entries: s.Entries[:count]}
			old, canon := impl.HeadOf(before).Value, impl.CanonOf(before).List
			for _, head := range []int64{impl.HeadOf(s).Value, int64(count)} {
				turn := impl.TurnChain(s, old, head)
				left := canon[:len(canon)-len(turn.Back)]
				wantInts(t, "LineOf the next head", impl.LineOf(s, head), impl.OK, slices.Concat(left, turn.Forth))
				if !slices.Equal(reversed(turn.Back), canon[len(left):]) {
					t.Errorf("back from %d to %d: %v of %v", old, head, turn.Back, canon)
				}
			}
		}
	}
}

// A line of 24, and 23 behind one: the longest ways that there are, and the shortest.
func TestP12TurnChainOfWholeStores(t *testing.T) {
	line, star := looseStore(rare(1), someHeader(), lineUps(23)...), looseStore(rare(2), someHeader(), starUps(23)...)
	var all []int64
	for place := int64(1); place < 24; place++ {
		all = append(all, place)
		wantTurn(t, "TurnChain down a line", impl.TurnChain(line, 0, place), impl.OK, nil, all)
		wantTurn(t, "TurnChain up a line", impl.TurnChain(line, place, 0), impl.OK, reversed(all), nil)
		other := place%23 + 1
		wantInt(t, "CommonOf two behind the first one", impl.CommonOf(star, place, other), impl.OK, 0)
		wantTurn(t, "TurnChain of two behind the first one", impl.TurnChain(star, place, other), impl.OK, []int64{place}, []int64{other})
	}
}

// A first header has no fault, and begins a store whose snapshot has its signers and nothing else.
func TestP12FirstHeaderBeginsAStore(t *testing.T) {
	for _, mode := range modes() {
		for _, c := range []impl.Config{rare(mode), often(mode), {Mode: mode, Period: 1, Epoch: 1}, {Mode: mode, Period: 100, Epoch: 100}} {
			for mask := 1; mask < 128; mask++ {
				signers := chosen(crowd(), mask)
				first := impl.GenesisOf(signers, fill(32))
				if fault := impl.HeaderFault(first.Header); first.Code != impl.OK || fault != impl.OK {
					t.Errorf("GenesisOf %v: %+v, and its fault is %d", signers, first, fault)
				}
				begun := impl.NewStore(c, first.Header)
				wantStore(t, "NewStore of a first header", begun, impl.OK, 0, firstAs(c, first.Header))
				wantStoreFault(t, "what a first header begins", begun.Store, impl.OK)
				wantSnap(t, "SnapAt a first header", impl.SnapAt(begun.Store, 0), impl.OK, impl.Snap{Signers: signers})
				if snap := impl.NewSnap(signers).Snap; !impl.SameSnaps(impl.SnapAt(begun.Store, 0).Snap, snap) {
					t.Errorf("SnapAt a first header is not %+v", snap)
				}
				if mask%16 == 1 {
					wantFirstAlone(t, begun.Store)
				}
			}
		}
	}
}

// wantFirstAlone: a store of a first header has it as its head, and nothing else.
func wantFirstAlone(t *testing.T, s impl.Store) {
	t.Helper()
	wantHead(t, "a store of a first header", s, 0)
	wantInts(t, "CanonOf a first header", impl.CanonOf(s), impl.OK, []int64{0})
	wantInt(t, "AtNumber of a first header", impl.AtNumber(s, 0), impl.OK, 0)
	for _, number := range []int64{-1, 1} {
		wantInt(t, "AtNumber beside a first header", impl.AtNumber(s, number), impl.ErrNone, 0)
	}
	wantInt(t, "CommonOf a first header", impl.CommonOf(s, 0, 0), impl.OK, 0)
	wantTurn(t, "TurnChain of a first header", impl.TurnChain(s, 0, 0), impl.OK, nil, nil)
	wantSnap(t, "SnapAt behind a first header", impl.SnapAt(s, 1), impl.ErrRange, impl.Snap{})
}

// What is no first header begins no store.
func TestP12NoFirstHeaderBeginsNone(t *testing.T) {
	for _, row := range []struct {
		call     string
		signers  [][]byte
		receipts []byte
		code     int64
	}{
		{"no signers", nil, fill(32), impl.ErrNone},
		{"no signers that are not nil", [][]byte{}, nil, impl.ErrNone},
		{"eight signers", risingAddrs(8), fill(32), impl.ErrMany},
		{"signers that fall", [][]byte{addr(2), addr(1)}, fill(32), impl.ErrForm},
		{"two alike", [][]byte{addr(1), addr(1)}, fill(32), impl.ErrForm},
		{"what is no address", [][]byte{fill(5)}, fill(32), impl.ErrForm},
		{"no receipts", risingAddrs(3), nil, impl.ErrForm},
		{"31 bytes of receipts", risingAddrs(3), fill(31), impl.ErrForm},
		{"33 bytes of receipts", risingAddrs(3), fill(33), impl.ErrForm},
	} {
		first := impl.GenesisOf(row.signers, row.receipts)
		wantHeader(t, "GenesisOf "+row.call, first, row.code, impl.Header{})
		for _, mode := range modes() {
			wantStore(t, "NewStore of none", impl.NewStore(rare(mode), first.Header), impl.ErrForm, 0, impl.Store{})
		}
	}
}
