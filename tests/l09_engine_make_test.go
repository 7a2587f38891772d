package tests

import (
	"bytes"
	"math/rand/v2"
	"slices"
	"testing"

	"loop.example/g00383/impl"
)

// wish is what MakeNext is told.
type wish struct {
	config impl.Config
	snap   impl.Snap
	parent impl.Header
	signer []byte
	target []byte
	add    bool
}

func (w wish) make() impl.HeaderResult {
	return impl.MakeNext(w.config, w.snap, w.parent, w.signer, w.target, w.add)
}

func (w wish) check(h impl.Header) int64 {
	return impl.CheckNext(w.config, w.snap, w.parent, h)
}

// with is the wish, in memory of its own, behind some changes.
func (w wish) with(changes ...func(w *wish)) wish {
	w.snap, w.parent, w.signer, w.target = cloneSnap(w.snap), cloneHeader(w.parent), bytes.Clone(w.signer), bytes.Clone(w.target)
	for _, change := range changes {
		change(&w)
	}
	return w
}

// wantMade: what MakeNext tells is what the chapter says, with that code; and it may follow, where its signer is not recent.
func wantMade(t *testing.T, call string, w wish, code int64) {
	t.Helper()
	told, want := makeNextAs(w.config, w.snap, w.parent, w.signer, w.target, w.add)
	if told != code {
		t.Fatalf("%s: by the chapter it is %d, the test wants %d: %+v", call, told, code, w)
	}
	got := w.make()
	wantHeader(t, "MakeNext of "+call, got, code, want)
	if code != impl.OK {
		return
	}
	follows := int64(impl.OK)
	if w.config.Mode == impl.ModeTurns && recentAs(w.snap, w.signer, w.snap.Number+1) {
		follows = impl.ErrRule
	}
	if next := w.check(got.Header); next != follows {
		t.Errorf("CheckNext of what was made of %s: %d, want %d", call, next, follows)
	}
}

func wishOf(mode int64, x impl.Snap, signer []byte, checkpoint bool) wish {
	d := draftOf(mode, x, signer, checkpoint)
	return wish{config: d.config, snap: d.snap, parent: d.parent, signer: bytes.Clone(signer)}
}

func TestP10MakeNextOfEachSignerAndTarget(t *testing.T) {
	for _, mode := range modes() {
		for _, x := range ruleSnaps() {
			for _, signer := range x.Signers {
				for _, target := range [][]byte{nil, {}, outsider(0), addr(0), x.Signers[0], signer} {
					for _, add := range []bool{false, true} {
						for _, checkpoint := range []bool{false, true} {
							w := wishOf(mode, x, signer, checkpoint).with(func(w *wish) { w.target, w.add = target, add })
							wantMade(t, "a next one", w, impl.OK)
						}
					}
				}
			}
		}
	}
}

// What each field of a header that was made is, told one by one.
func TestP10MakeNextFieldByField(t *testing.T) {
	x := someSnap()
	for _, mode := range modes() {
		for at, signer := range x.Signers {
			w := wishOf(mode, x, signer, false).with(func(w *wish) { w.target = outsider(3) })
			hard := int64(1)
			if mode == impl.ModeTurns && at == 2 {
				hard = 2
			}
			for add, nonce := range map[bool]int64{true: impl.NonceAdd, false: impl.NonceDrop} {
				w.add = add
				h := w.make().Header
				if h.Number != 1001 || h.Time != 5005 || h.Hard != hard || h.Nonce != nonce || len(h.Signers) != 0 {
					t.Errorf("what was made: %+v", h)
				}
				wantBytes(t, "Parent", impl.HashOf(w.parent), impl.OK, h.Parent)
				if !bytes.Equal(h.Target, outsider(3)) || !bytes.Equal(h.Receipts, w.parent.Receipts) || !bytes.Equal(h.Signer, signer) || !impl.SealRight(h) {
					t.Errorf("what was made: %+v", h)
				}
				wantCommitsOfMode(t, w, h)
			}
			marked := wishOf(mode, x, signer, true).with(func(w *wish) { w.target, w.add = outsider(3), true })
			h := marked.make().Header
			if h.Hard != hard || h.Nonce != impl.NonceNone || len(h.Target) != 0 || !equalLists(h.Signers, x.Signers) || !impl.SealRight(h) {
				t.Errorf("what was made at a checkpoint: %+v", h)
			}
			wantCommitsOfMode(t, marked, h)
			silent := wishOf(mode, x, signer, false).with(func(w *wish) { w.add = true })
			if h := silent.make().Header; h.Nonce != impl.NonceNone || len(h.Target) != 0 || len(h.Signers) != 0 {
				t.Errorf("what was made without a target: %+v", h)
			}
		}
	}
}

func wantCommitsOfMode(t *testing.T, w wish, h impl.Header) {
	t.Helper()
	var committers [][]byte
	if w.config.Mode == impl.ModeCommits {
		committers = w.snap.Signers
	}
	wantCommitters(t, "what was made", h, impl.OK, committers)
}

// The bytes were worked out apart from the program.
func TestP10MakeNextKnown(t *testing.T) {
	three := [][]byte{addr(1), addr(2), addr(3)}
	receipts := bytes.Repeat([]byte{0x22}, 32)
	genesis := "abc99c81011ac9d446716dd71600fe682f20d8ace834993df7eccf52dc299748"
	type row struct{ parent, seal, marks string }
	for mode, rows := range map[int64][]row{
		impl.ModeTurns: {
			{genesis, "917e504a", ""},
			{"72e617e1c9360e09b1f9ec1e21a9f5653ef12dfa7e74b3b7adac772a11c3f360", "82da94df", ""},
			{"5af96b70d1163b882107df483a63fdfca5a3e5d744d83be092643a7e3666f6fb", "140d53ea", ""},
		},
		impl.ModeCommits: {
			{genesis, "7636055d", "db1d9539 73b84258 11882db0"},
			{"57eb6072ae6330b9eb982a55892a9ac75f40b582186b569898ca3655e86b88a1", "c3c4445d", "eaf4b067 391b1ebc 0bfaf4e0"},
			{"f7141c73bef2f0b9d51bbed3cd6dfbd5129179bd79bb260d13d6b14bcbf5c2f1", "74b72d1c", "c40f1d8b 2fb70eef 249b945a"},
		},
	} {
		want := []impl.Header{
			{Number: 1, Time: 2, Hard: 3 - mode, Target: addr(9), Nonce: impl.NonceAdd, Signer: addr(2)},
			{Number: 2, Time: 4, Hard: 1, Target: addr(2), Nonce: impl.NonceDrop, Signer: addr(1)},
			{Number: 3, Time: 6, Hard: 1, Signers: three, Signer: addr(3)},
		}
		c := impl.Config{Mode: mode, Period: 2, Epoch: 3}
		parent, x := impl.GenesisOf(three, receipts).Header, impl.NewSnap(three).Snap
		for at, h := range want {
			h.Parent, h.Receipts, h.Seal = unhex(rows[at].parent), receipts, unhex(rows[at].seal)
			marks := unhex(rows[at].marks)
			for i := range len(marks) / 4 {
				h.Commits = append(h.Commits, slices.Concat(three[i], marks[4*i:4*i+4]))
			}
			got := impl.MakeNext(c, x, parent, h.Signer, h.Target, h.Nonce == impl.NonceAdd)
			wantHeader(t, "MakeNext", got, impl.OK, h)
			if code := impl.CheckNext(c, x, parent, h); code != impl.OK {
				t.Errorf("CheckNext of what is known, at %d: %d", at, code)
			}
			parent, x = h, impl.ApplyNext(c, x, h).Snap
		}
		last := impl.Snap{Number: 3, Signers: three, Recents: []impl.Recent{{Number: 2, Signer: addr(1)}, {Number: 3, Signer: addr(3)}}}
		wantSnap(t, "what comes of all", impl.SnapResult{Snap: x}, impl.OK, last)
	}
}

type wishFault struct {
	stage  int
	code   int64
	change func(w *wish)
}

// wishFaults stand in the order in which they are asked.
func wishFaults() []wishFault {
	rows := []wishFault{
		{0, impl.ErrRange, func(w *wish) { w.config.Mode = 0 }},
		{0, impl.ErrRange, func(w *wish) { w.config.Mode = 3 }},
		{0, impl.ErrRange, func(w *wish) { w.config.Period = 101 }},
		{0, impl.ErrRange, func(w *wish) { w.config.Epoch = 0 }},
	}
	for _, row := range snapFaultChanges() {
		rows = append(rows, wishFault{1, row.code, func(w *wish) { row.change(&w.snap) }})
	}
	for _, row := range headerFaultChanges() {
		rows = append(rows, wishFault{2, row.code, func(w *wish) { row.change(&w.parent) }})
	}
	rows = append(rows,
		wishFault{3, impl.ErrState, func(w *wish) { w.snap.Number = 1001 }},
		wishFault{3, impl.ErrState, func(w *wish) { w.parent.Number = 999 }},
		wishFault{3, impl.ErrState, func(w *wish) { w.parent.Number = 1001 }},
	)
	for _, wrong := range wrongAddrs() {
		rows = append(rows, wishFault{4, impl.ErrForm, func(w *wish) { w.signer = wrong }})
		if len(wrong) > 0 {
			rows = append(rows, wishFault{4, impl.ErrForm, func(w *wish) { w.target = wrong }})
		}
	}
	return append(rows,
		wishFault{5, impl.ErrNone, func(w *wish) { w.signer = outsider(0) }},
		wishFault{5, impl.ErrNone, func(w *wish) { w.signer = addr(0) }},
		wishFault{6, impl.ErrRange, func(w *wish) { w.parent.Time = topNumber }},
		wishFault{6, impl.ErrRange, func(w *wish) { w.parent.Time = topNumber - 4 }},
		wishFault{6, impl.ErrRange, func(w *wish) { w.parent.Number, w.snap.Number = topNumber, topNumber }},
	)
}

func TestP10MakeNextTheFirstCode(t *testing.T) {
	for _, mode := range modes() {
		for _, checkpoint := range []bool{false, true} {
			for _, x := range []impl.Snap{busySnap(), someSnap()} {
				w := wishOf(mode, x, x.Signers[1], checkpoint).with(func(w *wish) { w.target, w.add = outsider(0), checkpoint })
				rows := wishFaults()
				for i, a := range rows {
					wantMade(t, "one fault", w.with(a.change), a.code)
					for _, b := range rows[i+1:] {
						if a.stage < b.stage {
							wantMade(t, "two faults", w.with(b.change, a.change), a.code)
						}
					}
				}
			}
		}
	}
}

// A parent near the last Number, and near the last Time.
func TestP10MakeNextNearTheEnd(t *testing.T) {
	for _, mode := range modes() {
		for _, period := range []int64{1, 5, 99, 100} {
			for _, number := range []int64{0, topNumber - 2, topNumber - 1, topNumber} {
				for _, time := range []int64{0, topNumber - period - 1, topNumber - period, topNumber - period + 1, topNumber} {
					x := impl.Snap{Number: number, Signers: risingAddrs(4)}
					w := wish{config: impl.Config{Mode: mode, Period: period, Epoch: 1 + period%2}, snap: x, parent: parentAt(number), signer: addr(1), target: outsider(2), add: true}
					w.parent.Time = time
					code := int64(impl.OK)
					if number == topNumber || time+period > topNumber {
						code = impl.ErrRange
					}
					wantMade(t, "a parent near the end", w, code)
				}
			}
		}
	}
}

// chain is headers that were made one behind the other, and the snapshots ahead of and behind each.
type chain struct {
	config  impl.Config
	genesis impl.Header
	list    []impl.Header
	snaps   []impl.Snap
}

// parentOf is the header ahead of the one at a place.
func (k chain) parentOf(at int) impl.Header {
	return append([]impl.Header{k.genesis}, k.list...)[at]
}

// chainOf makes so many headers, each of some signer that may, and each with some vote; all by the chapter, none by the program.
func chainOf(t *testing.T, seed uint64, mode int64, count int) chain {
	t.Helper()
	r := rand.New(rand.NewPCG(94, seed))
	all := crowd()
	signers := chosen(all, 1+r.IntN(127))
	k := chain{config: impl.Config{Mode: mode, Period: 1 + r.Int64N(100), Epoch: 1 + r.Int64N(15)}}
	k.genesis = impl.Header{Parent: make([]byte, 32), Hard: 1, Signers: signers, Receipts: randomBytes(r, 32), Signer: signers[0]}
	k.genesis.Number, k.genesis.Time = r.Int64N(1<<r.IntN(30)), r.Int64N(1<<r.IntN(30))
	k.snaps = []impl.Snap{{Number: k.genesis.Number, Signers: signers}}
	among := 2 + r.IntN(len(all)-1)
	parent := k.genesis
	for range count {
		x := k.snaps[len(k.snaps)-1]
		free := slices.DeleteFunc(slices.Clone(x.Signers), func(signer []byte) bool {
			return mode == impl.ModeTurns && recentAs(x, signer, x.Number+1)
		})
		target := [][]byte{nil, all[r.IntN(among)]}[min(1, r.IntN(5))]
		code, h := makeNextAs(k.config, x, parent, free[r.IntN(len(free))], target, !holds(x.Signers, target) == (r.IntN(5) > 0))
		applied, next := applyNextAs(k.config, x, h)
		if code != impl.OK || applied != impl.OK || checkNextAs(k.config, x, parent, h) != impl.OK {
			t.Fatalf("%+v may not follow %+v: %d, %d", h, parent, code, applied)
		}
		k.list, k.snaps, parent = append(k.list, h), append(k.snaps, next), h
	}
	return k
}

func someChains(t *testing.T) []chain {
	t.Helper()
	var chains []chain
	for seed := range uint64(12) {
		chains = append(chains, chainOf(t, seed, modes()[seed%2], 40))
	}
	return chains
}

// Whoever is not recent may make a next one, at each place of long chains; who is may not.
func TestP10WhatIsMadeMayFollow(t *testing.T) {
	refused := 0
	for _, k := range someChains(t) {
		for at, x := range k.snaps {
			w := wish{config: k.config, snap: x, parent: k.parentOf(at), target: outsider(9), add: at%3 > 0}
			for _, signer := range x.Signers {
				w.signer = signer
				made := w.make()
				recent := impl.WasRecent(x, signer, x.Number+1) && k.config.Mode == impl.ModeTurns
				if code := w.check(made.Header); made.Code != impl.OK || (code == impl.OK) == recent || recent && code != impl.ErrRule {
					t.Errorf("made: %d, it may follow: %d, its signer is recent: %v", made.Code, code, recent)
				}
				if recent {
					refused++
				}
			}
		}
	}
	if refused < 50 {
		t.Errorf("%d were refused alone", refused)
	}
}

// Whatever may follow is signed by one of the signers, behind its parent, and in time; changed a little it may follow no more.
func TestP10WhatMayFollow(t *testing.T) {
	for _, k := range someChains(t) {
		for at, h := range k.list {
			x, parent := k.snaps[at], k.parentOf(at)
			if impl.CheckNext(k.config, x, parent, h) != impl.OK {
				t.Fatalf("the header at %d may not follow", at)
			}
			if !impl.SealRight(h) || !holds(x.Signers, h.Signer) || !bytes.Equal(h.Parent, impl.HashOf(parent).Bytes) || h.Number != parent.Number+1 || h.Time < parent.Time+k.config.Period {
				t.Errorf("the header at %d may follow: %+v", at, h)
			}
			for name, change := range map[string]func(h *impl.Header){
				"Parent": func(h *impl.Header) { h.Parent[at%32] ^= 4 }, "Number": func(h *impl.Header) { h.Number++ }, "Time": func(h *impl.Header) { h.Time-- },
				"Hard": func(h *impl.Header) { h.Hard++ }, "Nonce": func(h *impl.Header) { h.Nonce = (h.Nonce + 1) % 3 }, "Receipts": func(h *impl.Header) { h.Receipts[at%32] ^= 8 },
				"Signer": func(h *impl.Header) { h.Signer[3] ^= 1 }, "Seal": func(h *impl.Header) { h.Seal[at%4] ^= 2 }, "Signers": func(h *impl.Header) { h.Signers = append(h.Signers, []byte{255, 255, 255, 255}) },
			} {
				if impl.CheckNext(k.config, x, parent, withChange(h, change)) == impl.OK {
					t.Errorf("the header at %d may follow with another %s", at, name)
				}
			}
		}
	}
}

func TestP10ReplayAllOfNone(t *testing.T) {
	for _, mode := range modes() {
		for n := 1; n <= 7; n++ {
			for _, number := range []int64{0, 1, 1000, topNumber} {
				genesis := withChange(impl.GenesisOf(risingAddrs(n), fill(32)).Header, func(h *impl.Header) { h.Number = number })
				want := impl.Snap{Number: number, Signers: risingAddrs(n)}
				for _, none := range [][]impl.Header{nil, {}} {
					wantSnap(t, "ReplayAll of no headers", impl.ReplayAll(rare(mode), genesis, none), impl.OK, want)
				}
			}
		}
	}
	// A first header need not be like one of GenesisOf: its Signers and its Number alone are taken.
	h := someHeader()
	wantSnap(t, "ReplayAll behind some header", impl.ReplayAll(rare(1), h, nil), impl.OK, impl.Snap{Number: 300, Signers: h.Signers})
}

// The snapshot of all is that of the first ones, with the others applied.
func TestP10ReplayAllOfTheFirstOnes(t *testing.T) {
	for _, k := range someChains(t) {
		for count := range len(k.list) + 1 {
			first := impl.ReplayAll(k.config, k.genesis, k.list[:count])
			wantSnap(t, "ReplayAll of the first ones", first, impl.OK, k.snaps[count])
			if count%8 != 0 {
				continue
			}
			rest := first
			for _, h := range k.list[count:] {
				rest = impl.ApplyNext(k.config, rest.Snap, h)
			}
			wantSnap(t, "the others applied", rest, impl.OK, k.snaps[len(k.list)])
		}
	}
}

func TestP10ReplayAllOfCounts(t *testing.T) {
	for _, mode := range modes() {
		k := chainOf(t, 50, mode, 42)
		wantSnap(t, "39 headers", impl.ReplayAll(k.config, k.genesis, k.list[:39]), impl.OK, k.snaps[39])
		wantSnap(t, "40 headers", impl.ReplayAll(k.config, k.genesis, k.list[:40]), impl.OK, k.snaps[40])
		wantSnap(t, "41 headers", impl.ReplayAll(k.config, k.genesis, k.list[:41]), impl.ErrMany, impl.Snap{})
		wantSnap(t, "42 headers", impl.ReplayAll(k.config, k.genesis, k.list), impl.ErrMany, impl.Snap{})
		wantSnap(t, "41 that are nothing", impl.ReplayAll(k.config, k.genesis, make([]impl.Header, 41)), impl.ErrMany, impl.Snap{})
		wantSnap(t, "40 that are nothing", impl.ReplayAll(k.config, k.genesis, make([]impl.Header, 40)), impl.ErrForm, impl.Snap{})
	}
}

// The setting, the first header, how many there are, its Signers, and then the headers one by one.
func TestP10ReplayAllTheFirstCode(t *testing.T) {
	for _, mode := range modes() {
		wantReplayedInOrder(t, chainOf(t, 51, mode, 41))
	}
}

func wantReplayedInOrder(t *testing.T, k chain) {
	t.Helper()
	bare := withChange(k.genesis, func(h *impl.Header) { h.Signers = nil })
	lists := [][]impl.Header{nil, k.list[:1], k.list[1:3], k.list[:40], k.list, make([]impl.Header, 41)}
	for _, list := range lists {
		for _, c := range []impl.Config{{}, {Mode: 3, Period: 1, Epoch: 1}, {Mode: 1, Period: 0, Epoch: 1}, {Mode: 2, Period: 1, Epoch: 101}} {
			for _, genesis := range []impl.Header{k.genesis, bare, {}} {
				wantSnap(t, "a setting with a fault", impl.ReplayAll(c, genesis, list), impl.ErrRange, impl.Snap{})
			}
		}
		for _, row := range headerFaultChanges() {
			for _, genesis := range []impl.Header{k.genesis, bare} {
				wantSnap(t, "a first header with a fault", impl.ReplayAll(k.config, withChange(genesis, row.change), list), row.code, impl.Snap{})
			}
		}
		code := int64(impl.ErrNone)
		if len(list) > 40 {
			code = impl.ErrMany
		}
		wantSnap(t, "a first header without Signers", impl.ReplayAll(k.config, bare, list), code, impl.Snap{})
	}
}

// A header that may not follow, at each place: its code is told, whatever stands behind it.
func TestP10ReplayAllOfOneThatMayNotFollow(t *testing.T) {
	type wrong struct {
		code   int64
		change func(h *impl.Header)
	}
	for _, mode := range modes() {
		k := chainOf(t, 52, mode, 40)
		rows := []wrong{
			{impl.ErrForm, func(h *impl.Header) { h.Receipts = nil }},
			{impl.ErrMany, func(h *impl.Header) { h.Commits = someCommits(8) }},
			{impl.ErrNone, func(h *impl.Header) { h.Parent[0] ^= 1 }},
			{impl.ErrRange, func(h *impl.Header) { h.Number++ }},
			{impl.ErrRule, func(h *impl.Header) { h.Time-- }},
			{impl.ErrSign, func(h *impl.Header) { h.Seal = nil }},
		}
		if mode == impl.ModeTurns {
			rows = append(rows, wrong{impl.ErrForm, func(h *impl.Header) { h.Commits = someCommits(1) }})
		} else {
			rows = append(rows,
				wrong{impl.ErrRule, func(h *impl.Header) { h.Commits = nil }},
				wrong{impl.ErrSign, func(h *impl.Header) { h.Commits[0][7] ^= 1 }},
				wrong{impl.ErrTaken, func(h *impl.Header) { h.Commits = [][]byte{h.Commits[0], h.Commits[0]} }},
			)
		}
		for at := range k.list {
			for _, row := range rows {
				list := slices.Clone(k.list)
				list[at] = withChange(list[at], row.change)
				wantSnap(t, "one that may not follow", impl.ReplayAll(k.config, k.genesis, list), row.code, impl.Snap{})
				// Of two the first one is told.
				if at > 0 {
					list[at-1] = withChange(list[at-1], func(h *impl.Header) { h.Seal = fill(5) })
					wantSnap(t, "two that may not follow", impl.ReplayAll(k.config, k.genesis, list), impl.ErrForm, impl.Snap{})
				}
			}
			wantSnap(t, "those ahead of it", impl.ReplayAll(k.config, k.genesis, k.list[:at]), impl.OK, k.snaps[at])
			without := slices.Delete(slices.Clone(k.list), at, at+1)
			if at < len(k.list)-1 {
				wantSnap(t, "one that is missing", impl.ReplayAll(k.config, k.genesis, without), impl.ErrNone, impl.Snap{})
			}
			twice := slices.Insert(slices.Clone(k.list[:39]), min(at, 38), k.list[min(at, 38)])
			wantSnap(t, "one that comes twice", impl.ReplayAll(k.config, k.genesis, twice), impl.ErrNone, impl.Snap{})
		}
	}
}

// One that is recent, or no signer any more, may not follow, though it has a seal that is right.
func TestP10ReplayAllOfSigners(t *testing.T) {
	c := impl.Config{Mode: impl.ModeTurns, Period: 2, Epoch: 50}
	three := [][]byte{addr(1), addr(2), addr(3)}
	genesis := impl.GenesisOf(three, fill(32)).Header
	next := func(x impl.Snap, parent impl.Header, signer []byte, target []byte) impl.Header {
		code, h := makeNextAs(c, x, parent, signer, target, false)
		if code != impl.OK {
			t.Fatal(code)
		}
		return h
	}
	x := impl.Snap{Signers: three}
	one := next(x, genesis, addr(1), addr(3))
	_, behindOne := applyNextAs(c, x, one)
	two := next(behindOne, one, addr(2), addr(3))
	wantSnap(t, "one that votes another one out", impl.ReplayAll(c, genesis, []impl.Header{one, two}), impl.OK, impl.Snap{
		Number: 2, Signers: three[:2], Recents: []impl.Recent{{Number: 2, Signer: addr(2)}},
	})
	again := next(behindOne, one, addr(1), nil)
	wantSnap(t, "one that is recent", impl.ReplayAll(c, genesis, []impl.Header{one, again}), impl.ErrRule, impl.Snap{})
	// The third one still makes its header behind the second as if it had not been voted out.
	gone := next(impl.Snap{Number: 2, Signers: three}, two, addr(3), nil)
	wantSnap(t, "one that is no signer any more", impl.ReplayAll(c, genesis, []impl.Header{one, two, gone}), impl.ErrRule, impl.Snap{})
	_, behindTwo := applyNextAs(c, behindOne, two)
	last := next(behindTwo, two, addr(1), nil)
	wantSnap(t, "one that may sign again", impl.ReplayAll(c, genesis, []impl.Header{one, two, last}), impl.OK, impl.Snap{
		Number: 3, Signers: three[:2], Recents: []impl.Recent{{Number: 2, Signer: addr(2)}, {Number: 3, Signer: addr(1)}},
	})
}
