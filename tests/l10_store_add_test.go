package tests

import (
	"bytes"
	"math/rand/v2"
	"slices"
	"testing"

	"loop.example/g00383/impl"
)

// addHeaderAs is what the chapter says of a header that is to be put.
func addHeaderAs(s impl.Store, h impl.Header) (int64, impl.Store) {
	if code := firstOf(storeFaultAs(s), impl.HeaderFault(h)); code != impl.OK {
		return code, impl.Store{}
	}
	hash, up := hashAs(h, h.Seal), -1
	for at, e := range s.Entries {
		if bytes.Equal(e.Hash, hash) {
			return impl.ErrTaken, impl.Store{}
		}
		if bytes.Equal(e.Hash, h.Parent) {
			up = at
		}
	}
	if up < 0 {
		return impl.ErrNone, impl.Store{}
	}
	code, x := snapAtAs(s, up)
	if code == impl.OK {
		code = checkNextAs(s.Config, x, s.Entries[up].Header, h)
	}
	if code == impl.OK && len(s.Entries) == 24 {
		code = impl.ErrFull
	}
	if code != impl.OK {
		return code, impl.Store{}
	}
	return impl.OK, putAs(s, up, h)
}

// wantAdded: what AddHeader tells is what the chapter says, with that code; and where it is put it is there, behind its parent, and all others stay.
func wantAdded(t *testing.T, call string, s impl.Store, h impl.Header, code int64) impl.Store {
	t.Helper()
	told, want := addHeaderAs(s, h)
	if told != code {
		t.Fatalf("%s: by the chapter it is %d, the test wants %d: %+v behind %+v", call, told, code, h, s)
	}
	got, place := impl.AddHeader(s, h), int64(0)
	if code == impl.OK {
		place = int64(len(s.Entries))
	}
	wantStore(t, "AddHeader of "+call, got, code, place, want)
	if code == impl.OK && got.Code == impl.OK {
		wantThere(t, s, h, got)
	}
	return got.Store
}

// wantThere asks for what is promised of a header that was put, one by one.
func wantThere(t *testing.T, before impl.Store, h impl.Header, got impl.StoreResult) {
	t.Helper()
	s := got.Store
	if len(s.Entries) != len(before.Entries)+1 || got.Place != int64(len(before.Entries)) || s.Config != before.Config {
		t.Fatalf("%d entries behind %d, the place %d", len(s.Entries), len(before.Entries), got.Place)
	}
	for at, e := range before.Entries {
		if !equalEntries(s.Entries[at], e) {
			t.Errorf("the entry at %d has not stayed: %+v", at, s.Entries[at])
		}
	}
	e := s.Entries[got.Place]
	up := s.Entries[e.Up]
	if !equalHeaders(e.Header, h) || !bytes.Equal(e.Hash, impl.HashOf(h).Bytes) || !bytes.Equal(h.Parent, up.Hash) || h.Number != up.Header.Number+1 {
		t.Errorf("what was put is %+v, behind %+v", e, up)
	}
	if total := impl.AddWide(up.Total, impl.WideOf(h.Hard).Limbs); !slices.Equal(e.Total, total.Limbs) {
		t.Errorf("the Total is %v behind %v, and it was %d hard", e.Total, up.Total, h.Hard)
	}
	wantStoreFault(t, "what it was put to", s, impl.OK)
	wantInt(t, "FindEntry of what was put", impl.FindEntry(s, e.Hash), impl.OK, got.Place)
	wantInts(t, "LineOf what was put", impl.LineOf(s, got.Place), impl.OK, append(impl.LineOf(s, e.Up).List, got.Place))
	wantStore(t, "AddHeader once more", impl.AddHeader(s, h), impl.ErrTaken, 0, impl.Store{})
}

// Behind the first entry, behind the last one and behind each in the midst, in stores of each shape and Mode.
func TestP11AddHeaderBehindEach(t *testing.T) {
	r := rand.New(rand.NewPCG(105, 1))
	for _, count := range []int{0, 1, 2, 7, 21, 22} {
		for _, g := range someGroves(t, count) {
			for up := range g.store.Entries {
				h := g.some(r, up)
				got := wantAdded(t, "one that may follow", g.store, h, impl.OK)
				if len(got.Entries) != count+2 || got.Entries[count+1].Up != int64(up) {
					t.Errorf("it was put behind %d: %+v", up, got)
				}
				_, x := applyNextAs(g.store.Config, g.snaps[up], h)
				wantSnap(t, "SnapAt what was put", impl.SnapAt(got, int64(count)+1), impl.OK, x)
			}
		}
	}
}

// From a new store to a full one, one by one, and not one more.
func TestP11AddHeaderFromNoneToAll(t *testing.T) {
	r := rand.New(rand.NewPCG(105, 2))
	for _, mode := range modes() {
		for _, ups := range shapes(23) {
			g := groveOf(t, r.Uint64(), mode)
			s := impl.NewStore(g.store.Config, g.store.Entries[0].Header).Store
			for at, up := range ups {
				h := g.some(r, up)
				g = g.grown(t, up, h)
				got := impl.AddHeader(s, h)
				wantStore(t, "AddHeader", got, impl.OK, int64(at)+1, g.store)
				s = got.Store
			}
			for up := range g.store.Entries {
				wantAdded(t, "a 25th", s, g.some(r, up), impl.ErrFull)
			}
			for at, x := range g.snaps {
				wantSnap(t, "SnapAt in a full store", impl.SnapAt(s, int64(at)), impl.OK, x)
			}
		}
	}
}

// A header that is there already, be it the first one, the last one or one in the midst.
func TestP11AddHeaderThatIsThere(t *testing.T) {
	for _, count := range []int{0, 1, 9, 22, 23} {
		for _, g := range someGroves(t, count) {
			for _, e := range g.store.Entries {
				wantAdded(t, "one that is there", g.store, cloneHeader(e.Header), impl.ErrTaken)
				for _, commits := range [][][]byte{nil, someCommits(1), someCommits(7)} {
					wantAdded(t, "one that is there with other Commits", g.store, withCommits(e.Header, commits), impl.ErrTaken)
				}
			}
		}
	}
	for _, s := range looseStores(6) {
		for _, e := range s.Entries {
			wantAdded(t, "one that is there, and may not follow", s, e.Header, impl.ErrTaken)
		}
	}
}

func TestP11AddHeaderWithoutAParent(t *testing.T) {
	r := rand.New(rand.NewPCG(105, 3))
	for _, g := range someGroves(t, 6) {
		for up := range g.store.Entries {
			for bit := range 256 {
				if (bit+up)%37 == 0 {
					d := g.draft(up, g.free(up)[0])
					d.tie = func(hash []byte) []byte { return flipped(hash, bit) }
					wantAdded(t, "one whose Parent is not there", g.store, d.finished().next, impl.ErrNone)
				}
			}
			// Its parent comes one later than it does, and then it may follow.
			h := g.some(r, up)
			with := g.grown(t, up, h)
			behind := with.some(r, len(g.store.Entries))
			wantAdded(t, "one ahead of its parent", g.store, behind, impl.ErrNone)
			s := wantAdded(t, "the parent", g.store, h, impl.OK)
			wantAdded(t, "one behind its parent", s, behind, impl.OK)
		}
		for _, parent := range [][]byte{make([]byte, 32), g.store.Entries[1].Header.Receipts, hashAs(g.store.Entries[1].Header, nil)} {
			d := g.draft(0, g.free(0)[0])
			d.tie = func([]byte) []byte { return parent }
			wantAdded(t, "one with another Parent", g.store, d.finished().next, impl.ErrNone)
		}
	}
}

func TestP11AddHeaderWithAFault(t *testing.T) {
	for _, g := range wrongGroves(t) {
		for up, e := range g.store.Entries {
			for _, row := range headerFaultChanges() {
				h := g.draft(up, g.free(up)[0]).with(func(d *draft) { d.last = row.change }).finished().next
				wantAdded(t, "one with a fault", g.store, h, row.code)
				wantAdded(t, "one that is there, with a fault", g.store, withChange(e.Header, row.change), row.code)
			}
		}
	}
}

// addFaults are all that CheckNext may tell of a header behind an entry: that its Number is another one too.
func addFaults(g grove, up int) []nextFault {
	return append(followFaults(g, up),
		nextFault{6, impl.ErrRange, func(d *draft) { d.next.Number-- }},
		nextFault{6, impl.ErrRange, func(d *draft) { d.next.Number++ }},
		nextFault{6, impl.ErrRange, func(d *draft) { d.next.Number = topNumber }},
	)
}

// fullOf is the store with as many entries as there may be: others behind its entries, none of which may follow.
func fullOf(s impl.Store) impl.Store {
	for at := len(s.Entries); at < 24; at++ {
		s = putAs(s, at%3, strayBehind(s.Entries[at%3], byte(at)))
	}
	return s
}

func TestP11AddHeaderThatMayNotFollow(t *testing.T) {
	told := map[int64]int{}
	for _, g := range wrongGroves(t) {
		full := fullOf(g.store)
		for up := range g.store.Entries {
			right := g.draft(up, g.free(up)[0])
			wantAdded(t, "one that may follow", g.store, right.finished().next, impl.OK)
			wantAdded(t, "one that may follow, and no room", full, right.finished().next, impl.ErrFull)
			for _, row := range addFaults(g, up) {
				h := right.with(row.change).finished().next
				wantAdded(t, "one that may not follow", g.store, h, row.code)
				wantAdded(t, "one that may not follow, and no room", full, h, row.code)
				told[row.code]++
			}
		}
	}
	for _, code := range []int64{impl.ErrRange, impl.ErrRule, impl.ErrSign, impl.ErrForm, impl.ErrTaken} {
		if told[code] < 10 {
			t.Errorf("the code %d was told %d times", code, told[code])
		}
	}
}

// Behind an entry that may not follow nothing may: the code of that one is told.
func TestP11AddHeaderBehindOneThatMayNotFollow(t *testing.T) {
	for _, g := range wrongGroves(t) {
		for up := range g.store.Entries {
			for i, row := range followFaults(g, up) {
				wrong := len(g.store.Entries)
				s := putAs(g.store, up, g.draft(up, g.free(up)[0]).with(row.change).finished().next)
				// All else is right, as if that one had been allowed to follow.
				_, x := applyNextAs(s.Config, g.snaps[up], s.Entries[wrong].Header)
				if len(x.Signers) == 0 {
					x = withSnap(g.snaps[up], func(x *impl.Snap) { x.Number++ })
				}
				loose := grove{store: s, snaps: append(slices.Clone(g.snaps), x)}
				d := loose.draft(wrong, loose.free(wrong)[0])
				wantAdded(t, "one behind one that may not follow", s, d.finished().next, row.code)
				soon := d.with(func(d *draft) { d.next.Time, d.seal = 0, func([]byte) []byte { return nil } })
				wantAdded(t, "one that may not follow, behind another one", s, soon.finished().next, row.code)
				if i%4 == 0 {
					wantAdded(t, "one behind one that may not follow, and no room", fullOf(s), d.finished().next, row.code)
				}
				// Behind the others it goes on.
				other := loose.draft(up, g.free(up)[0]).with(func(d *draft) { d.next.Time += 9 })
				wantAdded(t, "one beside one that may not follow", s, other.finished().next, impl.OK)
			}
		}
	}
}

// Two at once, for each two that stand beside each other: the store, the header, taken, no parent, the snapshot there, the rules, no room.
func TestP11AddHeaderOfNeighbours(t *testing.T) {
	for _, mode := range modes() {
		g := planted(impl.Config{Mode: mode, Period: 7, Epoch: 50}, impl.GenesisOf(risingAddrs(5), fill(32)).Header)
		for at := range 3 {
			g = g.grown(t, at, g.draft(at, g.free(at)[0]).finished().next)
		}
		unsealed := g.draft(3, g.free(3)[0]).with(func(d *draft) { d.seal = func([]byte) []byte { return nil } }).finished().next
		loose := putAs(g.store, 3, unsealed)
		full, faulty := fullOf(loose), withStore(g.store, func(s *impl.Store) { s.Entries[2].Total[0]++ })
		right := g.draft(3, g.free(3)[1])
		there := g.store.Entries[2].Header
		formless := withChange(there, func(h *impl.Header) { h.Commits = [][]byte{fill(7)} })
		crowded := withChange(right.finished().next, func(h *impl.Header) { h.Commits = someCommits(8) })
		lost := right.with(func(d *draft) { d.tie = func(hash []byte) []byte { return flipped(hash, 1) } }).finished().next
		lostSoon := right.with(func(d *draft) { d.tie, d.next.Time = func(hash []byte) []byte { return flipped(hash, 1) }, 0 }).finished().next
		soon := right.with(func(d *draft) { d.next.Time-- }).finished().next
		stray := strayBehind(loose.Entries[4], 1)
		for _, row := range []struct {
			call  string
			store impl.Store
			h     impl.Header
			code  int64
		}{
			{"a store, a header", faulty, formless, impl.ErrState},
			{"a store, taken", faulty, there, impl.ErrState},
			{"a store, no parent", faulty, lost, impl.ErrState},
			{"a store, one that may not follow", faulty, soon, impl.ErrState},
			{"no store, a header", impl.Store{}, formless, impl.ErrRange},
			{"no entries, no parent", impl.Store{Config: g.store.Config}, g.store.Entries[0].Header, impl.ErrMany},
			{"a header, taken", g.store, formless, impl.ErrForm},
			{"a header, no room", full, crowded, impl.ErrMany},
			{"taken, no parent", g.store, g.store.Entries[0].Header, impl.ErrTaken},
			{"taken, one that may not follow", loose, unsealed, impl.ErrTaken},
			{"taken, no room", full, there, impl.ErrTaken},
			{"no parent, one that may not follow", g.store, lostSoon, impl.ErrNone},
			{"no parent, some that may not follow", loose, lost, impl.ErrNone},
			{"no parent, no room", full, lost, impl.ErrNone},
			{"behind one that may not follow, too soon", loose, stray, impl.ErrSign},
			{"behind one that may not follow, no room", full, strayBehind(loose.Entries[4], 2), impl.ErrSign},
			{"too soon, no room", full, soon, impl.ErrRule},
			{"no room", full, right.finished().next, impl.ErrFull},
			{"nothing", g.store, right.finished().next, impl.OK},
		} {
			wantAdded(t, row.call, row.store, row.h, row.code)
		}
	}
}

// 23 entries leave room for one, 24 for none.
func TestP11AddHeaderOfCounts(t *testing.T) {
	r := rand.New(rand.NewPCG(105, 4))
	for _, mode := range modes() {
		for at, ups := range shapes(23) {
			g := groveOf(t, uint64(at), mode, ups[:22]...)
			last := g.some(r, ups[22])
			s := wantAdded(t, "a 24th", g.store, last, impl.OK)
			g = g.grown(t, ups[22], last)
			wantAdded(t, "a 25th", s, g.some(r, 0), impl.ErrFull)
			wantAdded(t, "a 25th behind the last one", s, g.some(r, 23), impl.ErrFull)
			wantAdded(t, "the 24th again", s, last, impl.ErrTaken)
		}
	}
}

// A first header near the last Number and the last Time: as far as there is room.
func TestP11AddHeaderNearTheEnd(t *testing.T) {
	for _, mode := range modes() {
		genesis := impl.GenesisOf(risingAddrs(4), fill(32)).Header
		genesis.Number, genesis.Time = topNumber-2, topNumber-20
		g := planted(impl.Config{Mode: mode, Period: 10, Epoch: 100}, genesis)
		for at := range 2 {
			d := g.draft(at, g.free(at)[0])
			s := wantAdded(t, "one near the end", g.store, d.finished().next, impl.OK)
			g = g.grown(t, at, d.finished().next)
			if !equalStores(s, g.store) {
				t.Errorf("near the end: %+v", s)
			}
		}
		wantAdded(t, "one behind the last Number", g.store, g.draft(2, g.free(2)[0]).finished().next, impl.ErrRange)
	}
}

// What AddHeader puts, and what NewStore begins with, is put as it is: the Total of however hard the first one was.
func TestP11AddHeaderOfTotals(t *testing.T) {
	for _, mode := range modes() {
		for hard := range int64(10) {
			genesis := withChange(impl.GenesisOf(risingAddrs(3), fill(32)).Header, func(h *impl.Header) { h.Hard = hard })
			g := planted(impl.Config{Mode: mode, Period: 1, Epoch: 10}, genesis)
			s, sum := impl.NewStore(g.store.Config, genesis).Store, hard
			for at := range 12 {
				signer := g.free(at)[at%len(g.free(at))]
				h := g.draft(at, signer).finished().next
				g = g.grown(t, at, h)
				got := impl.AddHeader(s, h)
				sum += h.Hard
				if got.Code != impl.OK || !slices.Equal(got.Store.Entries[at+1].Total, limbsFrom(sum)) {
					t.Fatalf("behind %d with %d: %+v", hard, sum, got)
				}
				s = got.Store
			}
		}
	}
}

// Long runs of headers, right and wrong, in whatever order: what comes of each is what the chapter says.
func TestP11AddHeaderAsTold(t *testing.T) {
	told := map[int64]int{}
	for seed := range uint64(24) {
		r := rand.New(rand.NewPCG(106, seed))
		g := groveOf(t, seed, modes()[seed%2])
		s, seen := impl.NewStore(g.store.Config, g.store.Entries[0].Header).Store, []impl.Header{}
		for range 60 {
			up := max(r.IntN(len(g.snaps)), r.IntN(len(g.snaps)))
			h := g.some(r, up)
			switch r.IntN(6) {
			case 0:
				if len(seen) > 0 {
					h = seen[r.IntN(len(seen))]
				}
			case 1:
				rows := []func(h *impl.Header){
					func(h *impl.Header) { h.Parent = flipped(h.Parent, r.IntN(256)) }, func(h *impl.Header) { h.Number++ }, func(h *impl.Header) { h.Time = 0 },
					func(h *impl.Header) { h.Seal = nil }, func(h *impl.Header) { h.Hard = 9 - h.Hard }, func(h *impl.Header) { h.Signer = outsider(2) },
					func(h *impl.Header) { h.Commits = someCommits(r.IntN(9)) }, func(h *impl.Header) { h.Receipts = nil }, func(h *impl.Header) { h.Nonce = 3 - h.Nonce },
				}
				h = withChange(h, rows[r.IntN(len(rows))])
			}
			code, want := addHeaderAs(s, h)
			got, place := impl.AddHeader(s, h), int64(0)
			told[code]++
			if code == impl.OK {
				place = int64(len(s.Entries))
				g, seen = g.grown(t, int(want.Entries[place].Up), h), append(seen, h)
			}
			wantStore(t, "AddHeader", got, code, place, want)
			if code == impl.OK {
				s = got.Store
			}
		}
		for at, x := range g.snaps {
			wantSnap(t, "SnapAt in the end", impl.SnapAt(s, int64(at)), impl.OK, x)
			wantInts(t, "LineOf in the end", impl.LineOf(s, int64(at)), impl.OK, lineAs(g.store, at))
		}
	}
	for _, code := range []int64{impl.OK, impl.ErrForm, impl.ErrNone, impl.ErrRange, impl.ErrTaken, impl.ErrSign, impl.ErrRule, impl.ErrFull} {
		if told[code] < 5 {
			t.Errorf("the code %d was told %d times", code, told[code])
		}
	}
}
