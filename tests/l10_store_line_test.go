package tests

import (
	"bytes"
	"math"
	"slices"
	"testing"

	"loop.example/g00383/impl"
)

// knownStore is of headers whose hashes were worked out apart from the program: 1, 2 and 4 are one line behind the first entry, 3 and 5 another one.
func knownStore(mode int64) impl.Store {
	three := [][]byte{addr(1), addr(2), addr(3)}
	hashes := map[int64][]string{
		impl.ModeTurns: {
			"abc99c81011ac9d446716dd71600fe682f20d8ace834993df7eccf52dc299748", "72e617e1c9360e09b1f9ec1e21a9f5653ef12dfa7e74b3b7adac772a11c3f360",
			"5af96b70d1163b882107df483a63fdfca5a3e5d744d83be092643a7e3666f6fb", "7a5231931d8fdf99629ea42a1ef81d1b0d2d6aaae5475645fe4cfb3264294c09",
			"6254269e9dfda7b4a8c81b89e2cece20391c047ee934ef43a1143e98fc629f85", "4858a0cc64acd89b82296a54cae6f90ef6763666c47cf5dbc42ca24085cacda6",
		},
		impl.ModeCommits: {
			"abc99c81011ac9d446716dd71600fe682f20d8ace834993df7eccf52dc299748", "57eb6072ae6330b9eb982a55892a9ac75f40b582186b569898ca3655e86b88a1",
			"f7141c73bef2f0b9d51bbed3cd6dfbd5129179bd79bb260d13d6b14bcbf5c2f1", "7a5231931d8fdf99629ea42a1ef81d1b0d2d6aaae5475645fe4cfb3264294c09",
			"3f7694006ba0fe0c2764d03b740649d47bcc716fd4ce287541d23223844ec1bb", "4858a0cc64acd89b82296a54cae6f90ef6763666c47cf5dbc42ca24085cacda6",
		},
	}[mode]
	seals := map[int64][]string{
		impl.ModeTurns:   {"", "917e504a", "82da94df", "aa96236d", "140d53ea", "7505fca6"},
		impl.ModeCommits: {"", "7636055d", "c3c4445d", "aa96236d", "74b72d1c", "7505fca6"},
	}[mode]
	headers := []impl.Header{
		{Hard: 1, Signers: three, Signer: addr(1)},
		{Number: 1, Time: 2, Hard: 3 - mode, Target: addr(9), Nonce: impl.NonceAdd, Signer: addr(2)},
		{Number: 2, Time: 4, Hard: 1, Target: addr(2), Nonce: impl.NonceDrop, Signer: addr(1)},
		{Number: 1, Time: 2, Hard: 1, Signer: addr(3)},
		{Number: 3, Time: 6, Hard: 1, Signers: three, Signer: addr(3)},
		{Number: 2, Time: 4, Hard: 1, Signer: addr(2)},
	}
	ups := []int64{-1, 0, 1, 0, 2, 3}
	totals := map[int64][]int64{impl.ModeTurns: {1, 3, 4, 2, 5, 3}, impl.ModeCommits: {1, 2, 3, 2, 4, 3}}[mode]
	s := impl.Store{Config: impl.Config{Mode: mode, Period: 2, Epoch: 3}}
	for at, h := range headers {
		h.Parent, h.Receipts, h.Seal = make([]byte, 32), bytes.Repeat([]byte{0x22}, 32), unhex(seals[at])
		if at > 0 {
			h.Parent = unhex(hashes[ups[at]])
		}
		if at > 0 && mode == impl.ModeCommits {
			h.Commits = commitsAs(h, three)
		}
		s.Entries = append(s.Entries, impl.Entry{Header: h, Hash: unhex(hashes[at]), Up: ups[at], Total: limbsFrom(totals[at])})
	}
	return s
}

func TestP11KnownStore(t *testing.T) {
	three := [][]byte{addr(1), addr(2), addr(3)}
	recent := func(number int64, who int) impl.Recent { return impl.Recent{Number: number, Signer: addr(who)} }
	for _, mode := range modes() {
		want := knownStore(mode)
		wantStoreFault(t, "what is known", want, impl.OK)
		got := impl.NewStore(want.Config, want.Entries[0].Header)
		for at, e := range want.Entries {
			if at > 0 {
				got = impl.AddHeader(got.Store, e.Header)
			}
			first := impl.Store{Config: want.Config, Entries: want.Entries[:at+1]}
			wantStore(t, "what is known, one by one", got, impl.OK, int64(at), first)
			wantInt(t, "FindEntry of what is known", impl.FindEntry(want, e.Hash), impl.OK, int64(at))
		}
		for at, line := range [][]int64{{0}, {0, 1}, {0, 1, 2}, {0, 3}, {0, 1, 2, 4}, {0, 3, 5}} {
			wantInts(t, "LineOf what is known", impl.LineOf(want, int64(at)), impl.OK, line)
		}
		votes := []impl.Vote{voteOf(addr(2), addr(9), true), voteOf(addr(1), addr(2), false)}
		for at, x := range []impl.Snap{
			{Signers: three},
			{Number: 1, Signers: three, Recents: []impl.Recent{recent(1, 2)}, Votes: votes[:1]},
			{Number: 2, Signers: three, Recents: []impl.Recent{recent(1, 2), recent(2, 1)}, Votes: votes},
			{Number: 1, Signers: three, Recents: []impl.Recent{recent(1, 3)}},
			{Number: 3, Signers: three, Recents: []impl.Recent{recent(2, 1), recent(3, 3)}},
			{Number: 2, Signers: three, Recents: []impl.Recent{recent(1, 3), recent(2, 2)}},
		} {
			wantSnap(t, "SnapAt what is known", impl.SnapAt(want, int64(at)), impl.OK, x)
		}
	}
}

// searched are stores without a fault, with few and many entries.
func searched(t *testing.T) []impl.Store {
	t.Helper()
	stores := append(looseStores(23), looseStores(0)...)
	for _, g := range append(someGroves(t, 12), someGroves(t, 23)...) {
		stores = append(stores, g.store)
	}
	return stores
}

func TestP11FindEntry(t *testing.T) {
	for _, s := range searched(t) {
		for at, e := range s.Entries {
			wantInt(t, "FindEntry", impl.FindEntry(s, bytes.Clone(e.Hash)), impl.OK, int64(at))
			for _, hash := range [][]byte{flipped(e.Hash, 0), flipped(e.Hash, 255), e.Hash[:31], e.Hash[1:], append(bytes.Clone(e.Hash), 0), append([]byte{0}, e.Hash...), slices.Repeat(e.Hash, 2)} {
				wantInt(t, "FindEntry of nearly a Hash", impl.FindEntry(s, hash), impl.ErrNone, 0)
			}
			if len(e.Header.Seal) > 0 {
				wantInt(t, "FindEntry of a SealHash", impl.FindEntry(s, hashAs(e.Header, nil)), impl.ErrNone, 0)
			}
			wantInt(t, "FindEntry of a root of Receipts", impl.FindEntry(s, e.Header.Receipts), impl.ErrNone, 0)
		}
		for _, hash := range [][]byte{nil, {}, make([]byte, 32), fill(4), fill(1201), s.Entries[0].Header.Parent} {
			wantInt(t, "FindEntry of what is no Hash", impl.FindEntry(s, hash), impl.ErrNone, 0)
		}
		last := len(s.Entries) - 1
		without := withStore(s, func(s *impl.Store) { s.Entries = s.Entries[:last] })
		if last > 0 {
			wantInt(t, "FindEntry of one that is not there yet", impl.FindEntry(without, s.Entries[last].Hash), impl.ErrNone, 0)
		}
	}
}

func TestP11FindEntryInAStoreWithAFault(t *testing.T) {
	for _, s := range faultyGrounds(t) {
		last := len(s.Entries) - 1
		for _, row := range entryChanges(s, last) {
			faulty := faultAt(s, last, row)
			for at, e := range faulty.Entries {
				wantInt(t, "FindEntry in a store with a fault", impl.FindEntry(faulty, e.Hash), row.code, 0)
				wantInts(t, "LineOf in a store with a fault", impl.LineOf(faulty, int64(at)), row.code, nil)
			}
		}
	}
}

// Lines that are written out, in stores with forks.
func TestP11LineOfKnown(t *testing.T) {
	s := looseStore(rare(1), someHeader(), 0, 0, 1, 1, 2, 5, 3, 0, 6)
	for place, line := range [][]int64{{0}, {0, 1}, {0, 2}, {0, 1, 3}, {0, 1, 4}, {0, 2, 5}, {0, 2, 5, 6}, {0, 1, 3, 7}, {0, 8}, {0, 2, 5, 6, 9}} {
		wantInts(t, "LineOf", impl.LineOf(s, int64(place)), impl.OK, line)
	}
	long, star := looseStore(rare(2), someHeader(), lineUps(23)...), looseStore(rare(2), someHeader(), starUps(23)...)
	var all []int64
	for place := range int64(24) {
		all = append(all, place)
		wantInts(t, "LineOf a long line", impl.LineOf(long, place), impl.OK, all)
		wantInts(t, "LineOf one of many behind the first", impl.LineOf(star, place), impl.OK, slices.Compact([]int64{0, place}))
	}
}

// A line goes from the first entry on, number by number, each the Up of the next one.
func TestP11LineOf(t *testing.T) {
	for _, s := range searched(t) {
		for place := range s.Entries {
			got := impl.LineOf(s, int64(place))
			wantInts(t, "LineOf", got, impl.OK, lineAs(s, place))
			for i, at := range got.List {
				e := s.Entries[at]
				if e.Header.Number != s.Entries[0].Header.Number+int64(i) {
					t.Errorf("LineOf %d: the Number of %d is %d", place, at, e.Header.Number)
				}
				if i > 0 && (e.Up != got.List[i-1] || !bytes.Equal(e.Header.Parent, s.Entries[e.Up].Hash)) || i == 0 && at != 0 {
					t.Errorf("LineOf %d: %d is not behind the one ahead of it", place, at)
				}
			}
		}
	}
}

// noPlaces are none of a store with so many entries.
func noPlaces(count int) []int64 {
	return []int64{-1, int64(count), int64(count) + 1, -2, 100, 1 << 32, math.MaxInt64, math.MinInt64}
}

func TestP11LineOfAndSnapAtNoPlace(t *testing.T) {
	for _, s := range searched(t) {
		for _, place := range noPlaces(len(s.Entries)) {
			wantInts(t, "LineOf no place", impl.LineOf(s, place), impl.ErrRange, nil)
			wantSnap(t, "SnapAt no place", impl.SnapAt(s, place), impl.ErrRange, impl.Snap{})
		}
	}
}

func TestP11SnapAt(t *testing.T) {
	for _, g := range append(someGroves(t, 0), someGroves(t, 23)...) {
		for place, x := range g.snaps {
			wantSnap(t, "SnapAt", impl.SnapAt(g.store, int64(place)), impl.OK, x)
			var behind []impl.Header
			for _, at := range lineAs(g.store, place)[1:] {
				behind = append(behind, g.store.Entries[at].Header)
			}
			wantSnap(t, "ReplayAll of the line", impl.ReplayAll(g.store.Config, g.store.Entries[0].Header, behind), impl.OK, x)
		}
	}
}

// What is behind an entry, or beside it, is nothing to its snapshot.
func TestP11SnapAtOfItsOwnLineAlone(t *testing.T) {
	for _, g := range someGroves(t, 8) {
		for place, x := range g.snaps {
			first := withStore(g.store, func(s *impl.Store) { s.Entries = s.Entries[:place+1] })
			wantSnap(t, "SnapAt the last one", impl.SnapAt(first, int64(place)), impl.OK, x)
		}
		s := g.store
		for up := range g.store.Entries {
			s = putAs(s, up, strayBehind(s.Entries[up], 5))
		}
		for place, x := range g.snaps {
			wantSnap(t, "SnapAt one ahead of those that may not follow", impl.SnapAt(s, int64(place)), impl.OK, x)
		}
	}
}

// strayBehind is a header that is behind an entry, without a fault, and may not follow it: it comes too soon.
func strayBehind(e impl.Entry, mark byte) impl.Header {
	h := bareHeader()
	h.Parent, h.Number, h.Receipts = bytes.Clone(e.Hash), e.Header.Number+1, bytes.Repeat([]byte{mark}, 32)
	return h
}

// followFaults are those that a header behind an entry of a store without a fault may have: of the stages of CheckNext that are left.
func followFaults(g grove, up int) []nextFault {
	number := g.snaps[up].Number + 1
	rows := slices.DeleteFunc(nextFaults(g.store.Config.Mode, isMark(g.store.Config, number)), func(row nextFault) bool {
		turns := g.store.Config.Mode == impl.ModeTurns && row.stage == 11
		return row.stage < 7 || turns
	})
	return append(rows, nextFault{11, impl.ErrRule, func(d *draft) {
		// One that is recent; or, where nobody is, one that is no signer.
		d.next.Signer, d.next.Hard = outsider(0), 1
		for _, signer := range d.snap.Signers {
			if d.config.Mode == impl.ModeTurns && recentAs(d.snap, signer, number) {
				d.next.Signer, d.next.Hard = bytes.Clone(signer), hardAs(d.config, d.snap, signer, number)
			}
		}
	}})
}

// wrongGroves have some signers at each place, so that each fault can be given there.
func wrongGroves(t *testing.T) []grove {
	t.Helper()
	var groves []grove
	for _, mode := range modes() {
		for _, epoch := range []int64{2, 50} {
			genesis := impl.GenesisOf(risingAddrs(5), fill(32)).Header
			g := planted(impl.Config{Mode: mode, Period: 7, Epoch: epoch}, genesis)
			for at, up := range []int{0, 1, 0, 3, 2, 2} {
				d := g.draft(up, g.free(up)[at%3])
				d.next.Time++
				g = g.grown(t, up, d.finished().next)
			}
			groves = append(groves, g)
		}
	}
	return groves
}

// A header that may not follow, behind each entry, and others behind it: its code is told there and behind it, and nowhere else.
func TestP11SnapAtOfOneThatMayNotFollow(t *testing.T) {
	told := map[int64]int{}
	for _, g := range wrongGroves(t) {
		for up := range g.store.Entries {
			for _, row := range followFaults(g, up) {
				d := g.draft(up, g.free(up)[0]).with(row.change).finished()
				wrong := len(g.store.Entries)
				s := putAs(g.store, up, d.next)
				s = putAs(s, wrong, strayBehind(s.Entries[wrong], 1))
				s = putAs(s, up, g.draft(up, g.free(up)[0]).with(func(d *draft) { d.next.Time += 2 }).finished().next)
				s = putAs(s, wrong+1, strayBehind(s.Entries[wrong+1], 2))
				wantStoreFault(t, "a store with one that may not follow", s, impl.OK)
				for _, place := range []int{wrong, wrong + 1, wrong + 3} {
					if code, _ := snapAtAs(s, place); code != row.code {
						t.Fatalf("by the chapter it is %d, the test wants %d", code, row.code)
					}
					wantSnap(t, "SnapAt one that may not follow, or behind it", impl.SnapAt(s, int64(place)), row.code, impl.Snap{})
				}
				for place, x := range g.snaps {
					wantSnap(t, "SnapAt one ahead of it, or beside it", impl.SnapAt(s, int64(place)), impl.OK, x)
				}
				_, x := snapAtAs(s, wrong+2)
				wantSnap(t, "SnapAt one of the same parent", impl.SnapAt(s, int64(wrong)+2), impl.OK, x)
				told[row.code]++
			}
		}
	}
	for _, code := range []int64{impl.ErrRule, impl.ErrSign, impl.ErrForm, impl.ErrTaken} {
		if told[code] < 10 {
			t.Errorf("the code %d was told %d times", code, told[code])
		}
	}
}

// Of two headers of a line that may not follow the first one is told.
func TestP11SnapAtTheFirstThatMayNotFollow(t *testing.T) {
	for _, g := range wrongGroves(t) {
		unsealed := g.draft(2, g.free(2)[0]).with(func(d *draft) { d.seal = func([]byte) []byte { return nil } }).finished().next
		soon := g.draft(2, g.free(2)[0]).with(func(d *draft) { d.next.Time-- }).finished().next
		for first, code := range map[*impl.Header]int64{&unsealed: impl.ErrSign, &soon: impl.ErrRule} {
			s := putAs(g.store, 2, *first)
			place := len(s.Entries)
			for _, mark := range []byte{1, 2, 3} {
				last := len(s.Entries) - 1
				s = putAs(s, last, strayBehind(s.Entries[last], mark))
			}
			wantSnap(t, "SnapAt behind two that may not follow", impl.SnapAt(s, int64(place)), code, impl.Snap{})
			wantSnap(t, "SnapAt behind more that may not follow", impl.SnapAt(s, int64(place)+2), code, impl.Snap{})
		}
	}
}
