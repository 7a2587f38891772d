package tests

import (
	"bytes"
	"math"
	"math/big"
	"math/rand/v2"
	"slices"
	"testing"

	"loop.example/g00383/impl"
)

func cloneEntry(e impl.Entry) impl.Entry {
	return impl.Entry{Header: cloneHeader(e.Header), Hash: bytes.Clone(e.Hash), Up: e.Up, Total: slices.Clone(e.Total)}
}

// cloneStore is the same store in other memory.
func cloneStore(s impl.Store) impl.Store {
	cloned := impl.Store{Config: s.Config}
	for _, e := range s.Entries {
		cloned.Entries = append(cloned.Entries, cloneEntry(e))
	}
	return cloned
}

// withStore is a store in other memory, behind some changes.
func withStore(s impl.Store, changes ...func(s *impl.Store)) impl.Store {
	s = cloneStore(s)
	for _, change := range changes {
		change(&s)
	}
	return s
}

func equalEntries(a impl.Entry, b impl.Entry) bool {
	return equalHeaders(a.Header, b.Header) && bytes.Equal(a.Hash, b.Hash) && a.Up == b.Up && slices.Equal(a.Total, b.Total)
}

func equalStores(a impl.Store, b impl.Store) bool {
	return a.Config == b.Config && slices.EqualFunc(a.Entries, b.Entries, equalEntries)
}

func wantStore(t *testing.T, call string, got impl.StoreResult, code int64, place int64, s impl.Store) {
	t.Helper()
	if got.Code != code || got.Place != place || !equalStores(got.Store, s) {
		t.Errorf("%s: %+v, want code %d, the place %d and %+v", call, got, code, place, s)
	}
}

// What the chapter says, reckoned a second time; faults of headers are the program's.

func storeFaultAs(s impl.Store) int64 {
	if code := configFaultAs(s.Config); code != impl.OK {
		return code
	}
	if n := len(s.Entries); n == 0 || n > 24 {
		return impl.ErrMany
	}
	for at := range s.Entries {
		if code := entryFaultAs(s.Entries, at); code != impl.OK {
			return code
		}
	}
	if len(s.Entries[0].Header.Signers) == 0 {
		return impl.ErrNone
	}
	return impl.OK
}

func entryFaultAs(entries []impl.Entry, at int) int64 {
	e := entries[at]
	if code := impl.HeaderFault(e.Header); code != impl.OK {
		return code
	}
	if !bytes.Equal(e.Hash, hashAs(e.Header, e.Header.Seal)) {
		return impl.ErrSign
	}
	for _, ahead := range entries[:at] {
		if bytes.Equal(ahead.Hash, e.Hash) {
			return impl.ErrTaken
		}
	}
	total := big.NewInt(e.Header.Hard)
	if at == 0 && e.Up != -1 || at > 0 && (e.Up < 0 || e.Up >= int64(at)) {
		return impl.ErrRange
	}
	if at > 0 {
		up := entries[e.Up]
		if !bytes.Equal(e.Header.Parent, up.Hash) || e.Header.Number-1 != up.Header.Number {
			return impl.ErrForm
		}
		total.Add(total, bigOf(up.Total))
	}
	if !slices.Equal(e.Total, limbsOfBig(total)) {
		return impl.ErrState
	}
	return impl.OK
}

// lineAs goes from the last one back by the hashes alone.
func lineAs(s impl.Store, place int) []int64 {
	line := []int64{int64(place)}
	for parent := s.Entries[place].Header.Parent; line[0] != 0; parent = s.Entries[line[0]].Header.Parent {
		up := slices.IndexFunc(s.Entries, func(e impl.Entry) bool { return bytes.Equal(e.Hash, parent) })
		line = append([]int64{int64(up)}, line...)
	}
	return line
}

func snapAtAs(s impl.Store, place int) (int64, impl.Snap) {
	genesis := s.Entries[0].Header
	x, parent := impl.Snap{Number: genesis.Number, Signers: genesis.Signers}, genesis
	for _, at := range lineAs(s, place)[1:] {
		h := s.Entries[at].Header
		if code := checkNextAs(s.Config, x, parent, h); code != impl.OK {
			return code, impl.Snap{}
		}
		_, x = applyNextAs(s.Config, x, h)
		parent = h
	}
	return impl.OK, x
}

// firstAs is the store of a first header alone, and putAs one with one more entry; neither asks any rule.
func firstAs(c impl.Config, genesis impl.Header) impl.Store {
	e := impl.Entry{Header: cloneHeader(genesis), Hash: hashAs(genesis, genesis.Seal), Up: -1, Total: limbsFrom(genesis.Hard)}
	return impl.Store{Config: c, Entries: []impl.Entry{e}}
}

func putAs(s impl.Store, up int, h impl.Header) impl.Store {
	s = cloneStore(s)
	total := big.NewInt(h.Hard)
	total.Add(total, bigOf(s.Entries[up].Total))
	s.Entries = append(s.Entries, impl.Entry{Header: cloneHeader(h), Hash: hashAs(h, h.Seal), Up: int64(up), Total: limbsOfBig(total)})
	return s
}

// looseStore has no fault, if its first header has Signers; but no header of it behind the first one may follow. Ups are those of the entries behind the first one.
func looseStore(c impl.Config, genesis impl.Header, ups ...int) impl.Store {
	s := firstAs(c, genesis)
	for at, up := range ups {
		h := someHeader()
		h.Parent, h.Number, h.Time, h.Hard = s.Entries[up].Hash, s.Entries[up].Header.Number+1, int64(at), int64(9-at%10)
		s = putAs(s, up, h)
	}
	return s
}

// grove is a store whose headers may follow, all of them, with the snapshot behind each; it was grown by the chapter, not by the program.
type grove struct {
	store impl.Store
	snaps []impl.Snap
}

// free are those who may sign behind an entry.
func (g grove) free(up int) [][]byte {
	x := g.snaps[up]
	return slices.DeleteFunc(cloneLists(x.Signers), func(signer []byte) bool {
		return g.store.Config.Mode == impl.ModeTurns && recentAs(x, signer, x.Number+1)
	})
}

// draft is a header behind an entry, in the making, by one of its signers.
func (g grove) draft(up int, signer []byte) draft {
	c, x, parent := g.store.Config, g.snaps[up], g.store.Entries[up].Header
	d := draft{config: c, snap: cloneSnap(x), parent: cloneHeader(parent)}
	d.next = impl.Header{Number: x.Number + 1, Time: parent.Time + c.Period, Receipts: fill(32), Signer: bytes.Clone(signer)}
	d.next.Hard = hardAs(c, x, signer, d.next.Number)
	if isMark(c, d.next.Number) {
		d.next.Signers = cloneLists(x.Signers)
	}
	if c.Mode == impl.ModeCommits {
		d.committers = cloneLists(x.Signers)
	}
	return d
}

// some is a header that may follow an entry; no two are the same.
func (g grove) some(r *rand.Rand, up int) impl.Header {
	all, signers := crowd(), g.free(up)
	d := g.draft(up, signers[r.IntN(len(signers))])
	d.next.Time += r.Int64N(1 << r.IntN(20))
	d.next.Receipts = randomBytes(r, 32)
	if len(d.next.Signers) == 0 && r.IntN(4) > 0 {
		d.next.Target, d.next.Nonce = all[r.IntN(8)], 1+r.Int64N(2)
	}
	return d.finished().next
}

// grown is the grove with one more entry, which has to be one that may follow.
func (g grove) grown(t *testing.T, up int, h impl.Header) grove {
	t.Helper()
	code := checkNextAs(g.store.Config, g.snaps[up], g.store.Entries[up].Header, h)
	applied, x := applyNextAs(g.store.Config, g.snaps[up], h)
	if code != impl.OK || applied != impl.OK {
		t.Fatalf("%+v may not follow: %d, %d", h, code, applied)
	}
	return grove{store: putAs(g.store, up, h), snaps: append(slices.Clone(g.snaps), x)}
}

// planted is a grove of one entry.
func planted(c impl.Config, genesis impl.Header) grove {
	return grove{store: firstAs(c, genesis), snaps: []impl.Snap{{Number: genesis.Number, Signers: genesis.Signers}}}
}

// groveOf has forks as the ups tell them: those of the entries behind the first one.
func groveOf(t *testing.T, seed uint64, mode int64, ups ...int) grove {
	t.Helper()
	r := rand.New(rand.NewPCG(101, seed))
	signers := chosen(crowd(), 1+r.IntN(127))
	c := impl.Config{Mode: mode, Period: 1 + r.Int64N(100), Epoch: 1 + r.Int64N(15)}
	genesis := impl.Header{Parent: make([]byte, 32), Hard: 1, Signers: signers, Receipts: randomBytes(r, 32), Signer: signers[0]}
	genesis.Number, genesis.Time = r.Int64N(1<<r.IntN(30)), r.Int64N(1<<r.IntN(30))
	g := planted(c, genesis)
	for _, up := range ups {
		g = g.grown(t, up, g.some(r, up))
	}
	return g
}

// lineUps are those of one line, starUps of all behind the first entry, combUps of a line of which each has one more behind it, and someUps of whatever forks.
func lineUps(count int) []int {
	var ups []int
	for at := range count {
		ups = append(ups, at)
	}
	return ups
}

func starUps(count int) []int {
	return make([]int, count)
}

func combUps(count int) []int {
	var ups []int
	for at := range count {
		ups = append(ups, at-at%2)
	}
	return ups
}

func someUps(seed uint64, count int) []int {
	r := rand.New(rand.NewPCG(102, seed))
	var ups []int
	for at := range count {
		ups = append(ups, max(r.IntN(at+1), r.IntN(at+1)))
	}
	return ups
}

func shapes(count int) [][]int {
	return [][]int{lineUps(count), starUps(count), combUps(count), someUps(1, count), someUps(2, count)}
}

// someGroves are of each shape, in both Modes, with that many entries behind the first one.
func someGroves(t *testing.T, count int) []grove {
	t.Helper()
	var groves []grove
	for at, ups := range shapes(count) {
		for _, mode := range modes() {
			groves = append(groves, groveOf(t, uint64(at)+10*uint64(mode), mode, ups...))
		}
	}
	return groves
}

func looseStores(count int) []impl.Store {
	var stores []impl.Store
	for at, ups := range shapes(count) {
		stores = append(stores, looseStore(rare(1+int64(at)%2), someHeader(), ups...))
	}
	return stores
}

// wantStoreFault: what StoreFault tells is the code, and that is what the chapter says.
func wantStoreFault(t *testing.T, call string, s impl.Store, code int64) {
	t.Helper()
	if told := storeFaultAs(s); told != code {
		t.Fatalf("%s: by the chapter it is %d, the test wants %d: %+v", call, told, code, s)
	}
	if got := impl.StoreFault(s); got != code {
		t.Errorf("StoreFault of %s: %d, want %d: %+v", call, got, code, s)
	}
}

// wantFaultOfAll: the others ask the StoreFault first, whatever else they are told.
func wantFaultOfAll(t *testing.T, s impl.Store, code int64) {
	t.Helper()
	wantStoreFault(t, "a store", s, code)
	hashes, headers := [][]byte{nil, fill(32)}, []impl.Header{{}, someHeader()}
	for _, e := range s.Entries[:min(2, len(s.Entries))] {
		hashes = append(hashes, e.Hash)
		headers = append(headers, e.Header, looseStore(s.Config, e.Header, 0).Entries[1].Header)
	}
	for _, hash := range hashes {
		wantInt(t, "FindEntry in a store with a fault", impl.FindEntry(s, hash), code, 0)
	}
	for _, place := range []int64{-1, 0, int64(len(s.Entries)) - 1, int64(len(s.Entries)), math.MaxInt64} {
		wantInts(t, "LineOf in a store with a fault", impl.LineOf(s, place), code, nil)
		wantSnap(t, "SnapAt in a store with a fault", impl.SnapAt(s, place), code, impl.Snap{})
	}
	for _, h := range headers {
		wantStore(t, "AddHeader to a store with a fault", impl.AddHeader(s, h), code, 0, impl.Store{})
	}
}

func TestP11Constants(t *testing.T) {
	if impl.MaxEntries != 24 {
		t.Error("a constant is another one")
	}
}

func TestP11StoreFaultOfWhatIsRight(t *testing.T) {
	for _, count := range []int{0, 1, 2, 3, 10, 22, 23} {
		for _, g := range someGroves(t, count) {
			wantStoreFault(t, "a store whose headers may follow", g.store, impl.OK)
		}
		for _, s := range looseStores(count) {
			wantStoreFault(t, "a store whose headers may not follow", s, impl.OK)
		}
	}
	// A first header need not be like one of GenesisOf.
	for _, h := range manyHeaders(40) {
		if len(h.Signers) > 0 && h.Number < topNumber {
			wantStoreFault(t, "a store behind some header", looseStore(rare(1), h, 0, 0, 1), impl.OK)
		}
	}
}

// Commits are no part of a Hash: a header that was committed since is the same one.
func TestP11StoreFaultOfCommits(t *testing.T) {
	for _, g := range someGroves(t, 5) {
		for at := range g.store.Entries {
			for _, commits := range [][][]byte{nil, {}, someCommits(1), someCommits(7)} {
				s := withStore(g.store, func(s *impl.Store) { s.Entries[at].Header.Commits = commits })
				wantStoreFault(t, "other Commits", s, impl.OK)
			}
		}
	}
}

// configChanges give a store a setting with a fault.
func configChanges() []func(s *impl.Store) {
	return []func(s *impl.Store){
		func(s *impl.Store) { s.Config = impl.Config{} },
		func(s *impl.Store) { s.Config.Mode = 0 },
		func(s *impl.Store) { s.Config.Mode = 3 },
		func(s *impl.Store) { s.Config.Period = 0 },
		func(s *impl.Store) { s.Config.Period = 101 },
		func(s *impl.Store) { s.Config.Epoch = 0 },
		func(s *impl.Store) { s.Config.Epoch = 101 },
	}
}

// entryChange gives an entry a fault that is asked at one of the stages of an entry.
type entryChange struct {
	stage  int
	code   int64
	rehash bool
	change func(e *impl.Entry)
}

// entryChanges are all that the entry at a place may be given, in the order in which they are asked.
func entryChanges(s impl.Store, at int) []entryChange {
	rows := slices.Concat(headerFaultsIn(), hashFaultsIn(s, at))
	for from := 1; from < at; from++ {
		rows = append(rows,
			entryChange{2, impl.ErrTaken, false, func(e *impl.Entry) { *e = cloneEntry(s.Entries[from]) }},
			entryChange{2, impl.ErrTaken, false, func(e *impl.Entry) {
				*e = cloneEntry(s.Entries[from])
				e.Header.Commits = append([][]byte{fill(8)}, e.Header.Commits[min(1, len(e.Header.Commits)):]...)
			}},
		)
	}
	return slices.Concat(rows, upFaultsIn(at), behindFaultsIn(s, at), totalFaultsIn())
}

func headerFaultsIn() []entryChange {
	var rows []entryChange
	for _, row := range headerFaultChanges() {
		rows = append(rows, entryChange{0, row.code, false, func(e *impl.Entry) { row.change(&e.Header) }})
	}
	return rows
}

func hashFaultsIn(s impl.Store, at int) []entryChange {
	told := func(hash func(e *impl.Entry) []byte) entryChange {
		return entryChange{1, impl.ErrSign, false, func(e *impl.Entry) { e.Hash = hash(e) }}
	}
	rows := []entryChange{
		told(func(e *impl.Entry) []byte { return flipped(hashAs(e.Header, e.Header.Seal), 0) }),
		told(func(e *impl.Entry) []byte { return flipped(hashAs(e.Header, e.Header.Seal), 255) }),
		told(func(e *impl.Entry) []byte { return nil }),
		told(func(e *impl.Entry) []byte { return make([]byte, 32) }),
		told(func(e *impl.Entry) []byte { return hashAs(e.Header, e.Header.Seal)[:31] }),
		told(func(e *impl.Entry) []byte { return append(hashAs(e.Header, e.Header.Seal), 0) }),
		told(func(e *impl.Entry) []byte { return bytes.Clone(e.Header.Parent) }),
		told(func(e *impl.Entry) []byte { return hashAs(e.Header, []byte{9, 9, 9, 9}) }),
		{1, impl.ErrSign, false, func(e *impl.Entry) { e.Header.Receipts[31] ^= 1 }},
		{1, impl.ErrSign, false, func(e *impl.Entry) { e.Header.Seal = flipped(append(e.Header.Seal, 0, 0, 0, 0)[:4], 5) }},
	}
	for other := range s.Entries {
		if other != at {
			rows = append(rows, told(func(e *impl.Entry) []byte {
				// Of one that was given the header of that other entry it would be right.
				if hash := hashAs(e.Header, e.Header.Seal); bytes.Equal(hash, s.Entries[other].Hash) {
					return flipped(hash, 7)
				}
				return bytes.Clone(s.Entries[other].Hash)
			}))
		}
	}
	return rows
}

// wrongUps are no places ahead of one.
func wrongUps(at int) []int64 {
	ups := []int64{int64(at), int64(at) + 1, 23, 24, -2, 1 << 32, math.MaxInt64, math.MinInt64}
	if at > 0 {
		ups = append(ups, -1)
	}
	return slices.DeleteFunc(ups, func(up int64) bool { return 0 <= up && up < int64(at) })
}

func upFaultsIn(at int) []entryChange {
	var rows []entryChange
	for _, up := range wrongUps(at) {
		rows = append(rows, entryChange{3, impl.ErrRange, false, func(e *impl.Entry) { e.Up = up }})
	}
	return rows
}

// behindFaultsIn are those of an entry that is not behind the one that its Up tells; the first one has none.
func behindFaultsIn(s impl.Store, at int) []entryChange {
	if at == 0 {
		return nil
	}
	told := func(change func(h *impl.Header)) entryChange {
		return entryChange{4, impl.ErrForm, true, func(e *impl.Entry) {
			change(&e.Header)
			e.Hash = hashAs(e.Header, e.Header.Seal)
		}}
	}
	rows := []entryChange{
		told(func(h *impl.Header) { h.Parent = flipped(h.Parent, 0) }),
		told(func(h *impl.Header) { h.Parent = flipped(h.Parent, 255) }),
		told(func(h *impl.Header) { h.Parent = fill(32) }),
		told(func(h *impl.Header) { h.Number-- }),
		told(func(h *impl.Header) { h.Number++ }),
		told(func(h *impl.Header) { h.Number += 2 }),
	}
	for other := range at {
		if int64(other) != s.Entries[at].Up {
			rows = append(rows, entryChange{4, impl.ErrForm, false, func(e *impl.Entry) { e.Up = int64(other) }})
			rows = append(rows, told(func(h *impl.Header) { h.Parent = bytes.Clone(s.Entries[other].Hash) }))
		}
	}
	return rows
}

func totalFaultsIn() []entryChange {
	told := func(change func(total []int64) []int64) entryChange {
		return entryChange{5, impl.ErrState, false, func(e *impl.Entry) { e.Total = change(e.Total) }}
	}
	rows := []entryChange{
		told(func(total []int64) []int64 { total[0]--; return total }),
		told(func(total []int64) []int64 { total[0]++; return total }),
		told(func(total []int64) []int64 { return nil }),
		told(func(total []int64) []int64 { return total[:7] }),
		told(func(total []int64) []int64 { return append(total, 0) }),
		told(func(total []int64) []int64 { return total[:1] }),
		// The same number, with a word that is over its bound, or below it.
		told(func(total []int64) []int64 { total[0], total[1] = total[0]+1<<32, -1; return total }),
		told(func(total []int64) []int64 { total[0], total[1] = total[0]-1<<32, 1; return total }),
		told(func(total []int64) []int64 { total[0] = math.MinInt64; return total }),
		told(func(total []int64) []int64 { slices.Reverse(total[:8]); return append(total, 1) }),
	}
	for limb := range 8 {
		rows = append(rows,
			told(func(total []int64) []int64 { total[limb] += 1 << 32; return total }),
			told(func(total []int64) []int64 { total[limb] += 7; return total }),
		)
	}
	return rows
}

// faultAt is the store with a change of the entry at a place.
func faultAt(s impl.Store, at int, changes ...entryChange) impl.Store {
	return withStore(s, func(s *impl.Store) {
		for _, row := range changes {
			row.change(&s.Entries[at])
		}
	})
}

// faultyGrounds are stores without a fault of few entries, with forks.
func faultyGrounds(t *testing.T) []impl.Store {
	t.Helper()
	ups := []int{0, 0, 1, 1, 3}
	return []impl.Store{
		groveOf(t, 1, impl.ModeTurns, ups...).store, groveOf(t, 2, impl.ModeCommits, ups...).store,
		looseStore(rare(1), someHeader(), ups...), looseStore(often(2), fullGenesis(), lineUps(5)...),
	}
}

// fullGenesis is full, and leaves a few Numbers above it.
func fullGenesis() impl.Header {
	return withChange(fullHeader(), func(h *impl.Header) { h.Number = topNumber - 8 })
}

func TestP11StoreFaultEachCodeAlone(t *testing.T) {
	for _, s := range faultyGrounds(t) {
		wantStoreFault(t, "no fault", s, impl.OK)
		for _, change := range configChanges() {
			wantFaultOfAll(t, withStore(s, change), impl.ErrRange)
		}
		for at := range s.Entries {
			for _, row := range entryChanges(s, at) {
				wantStoreFault(t, "one fault", faultAt(s, at, row), row.code)
			}
		}
		for _, row := range entryChanges(s, len(s.Entries)-1) {
			wantFaultOfAll(t, faultAt(s, len(s.Entries)-1, row), row.code)
		}
	}
}

// The order of the chapter, in one entry: that of the lower stage is told.
func TestP11StoreFaultTheFirstCodeOfAnEntry(t *testing.T) {
	// What replaces an entry, or its Hash, has to come ahead of what is to stay wrong in it.
	turn := []int{5, 4, 0, 2, 1, 3}
	for _, s := range faultyGrounds(t) {
		for _, at := range []int{0, 1, 3, 5} {
			rows := entryChanges(s, at)
			for i, a := range rows {
				for _, b := range rows[i+1:] {
					// Neither what is hashed anew is taken, nor has an entry two Ups.
					if a.stage == b.stage || a.stage == 2 && b.rehash || a.stage == 3 && b.stage == 4 && !b.rehash {
						continue
					}
					two := []entryChange{a, b}
					if turn[b.stage] < turn[a.stage] {
						two = []entryChange{b, a}
					}
					wantStoreFault(t, "two faults of one entry", faultAt(s, at, two...), a.code)
				}
			}
		}
	}
}

// Each two that stand beside each other, written out.
func TestP11StoreFaultOfNeighbours(t *testing.T) {
	s := looseStore(rare(1), someHeader(), 0, 0, 1, 3)
	e := s.Entries
	put := func(at int, wrong impl.Entry) impl.Store {
		return withStore(s, func(s *impl.Store) { s.Entries[at] = cloneEntry(wrong) })
	}
	formless := withChange(e[4].Header, func(h *impl.Header) { h.Seal = fill(3) })
	numberless := withChange(e[4].Header, func(h *impl.Header) { h.Number = -1 })
	strayed := withChange(e[4].Header, func(h *impl.Header) { h.Parent = fill(32) })
	leaping := withChange(e[4].Header, func(h *impl.Header) { h.Number++ })
	strayHash, leapHash := hashAs(strayed, strayed.Seal), hashAs(leaping, leaping.Seal)
	for _, row := range []struct {
		call  string
		wrong impl.Entry
		code  int64
	}{
		{"a header, a Hash", impl.Entry{Header: formless, Hash: e[4].Hash, Up: 3, Total: e[4].Total}, impl.ErrForm},
		{"a Number, an empty Hash", impl.Entry{Header: numberless, Up: 3, Total: e[4].Total}, impl.ErrRange},
		{"a Hash, one that is taken", impl.Entry{Header: e[4].Header, Hash: e[1].Hash, Up: 3, Total: e[4].Total}, impl.ErrSign},
		{"a Hash that its own header had, taken", impl.Entry{Header: strayed, Hash: e[2].Hash, Up: 3, Total: e[4].Total}, impl.ErrSign},
		{"taken, an Up of -1", impl.Entry{Header: e[2].Header, Hash: e[2].Hash, Up: -1, Total: e[2].Total}, impl.ErrTaken},
		{"taken, an Up of its own", impl.Entry{Header: e[2].Header, Hash: e[2].Hash, Up: 4, Total: e[2].Total}, impl.ErrTaken},
		{"the first one again", e[0], impl.ErrTaken},
		{"an Up of -1, another Parent", impl.Entry{Header: strayed, Hash: strayHash, Up: -1, Total: e[4].Total}, impl.ErrRange},
		{"an Up of its own, another Number", impl.Entry{Header: leaping, Hash: leapHash, Up: 4, Total: e[4].Total}, impl.ErrRange},
		{"another Parent, a Total", impl.Entry{Header: strayed, Hash: strayHash, Up: 3, Total: limbsFrom(1)}, impl.ErrForm},
		{"another Number, no Total", impl.Entry{Header: leaping, Hash: leapHash, Up: 3}, impl.ErrForm},
		{"another Up, its Total", impl.Entry{Header: e[4].Header, Hash: e[4].Hash, Up: 2, Total: e[4].Total}, impl.ErrForm},
		{"a Total", impl.Entry{Header: e[4].Header, Hash: e[4].Hash, Up: 3, Total: limbsFrom(1)}, impl.ErrState},
	} {
		wantStoreFault(t, row.call, put(4, row.wrong), row.code)
	}
	wantStoreFault(t, "a first one with an Up and a Total", put(0, impl.Entry{Header: e[0].Header, Hash: e[0].Hash, Up: 0}), impl.ErrRange)
	wantStoreFault(t, "a first one with the Total of another", put(0, impl.Entry{Header: e[0].Header, Hash: e[0].Hash, Up: -1, Total: e[1].Total}), impl.ErrState)
}

// A fault of an entry is told ahead of that of a later one, whatever stage it is of.
func TestP11StoreFaultTheFirstEntry(t *testing.T) {
	for _, s := range faultyGrounds(t) {
		for early := range s.Entries {
			for late := early + 1; late < len(s.Entries); late++ {
				behind := entryChanges(s, late)
				for i, a := range entryChanges(s, early) {
					b := behind[(7*i+late)%len(behind)]
					wantStoreFault(t, "faults of two entries", faultAt(faultAt(s, late, b), early, a), a.code)
				}
			}
		}
	}
}

func TestP11StoreFaultOfCounts(t *testing.T) {
	for _, c := range []impl.Config{rare(1), often(2)} {
		wantFaultOfAll(t, impl.Store{Config: c}, impl.ErrMany)
		wantFaultOfAll(t, impl.Store{Config: c, Entries: []impl.Entry{}}, impl.ErrMany)
		for _, ups := range shapes(30) {
			wantStoreFault(t, "23 entries", looseStore(c, someHeader(), ups[:22]...), impl.OK)
			wantStoreFault(t, "24 entries", looseStore(c, someHeader(), ups[:23]...), impl.OK)
			wantFaultOfAll(t, looseStore(c, someHeader(), ups[:24]...), impl.ErrMany)
			wantStoreFault(t, "31 entries", looseStore(c, someHeader(), ups...), impl.ErrMany)
		}
		wantStoreFault(t, "24 that are nothing", impl.Store{Config: c, Entries: make([]impl.Entry, 24)}, impl.ErrForm)
		wantStoreFault(t, "25 that are nothing", impl.Store{Config: c, Entries: make([]impl.Entry, 25)}, impl.ErrMany)
		wantStoreFault(t, "many that are nothing", impl.Store{Config: c, Entries: make([]impl.Entry, 1<<16)}, impl.ErrMany)
	}
	for _, mode := range modes() {
		wantStoreFault(t, "24 whose headers may follow", groveOf(t, 3, mode, someUps(3, 23)...).store, impl.OK)
		wantStoreFault(t, "25 whose headers may follow", groveOf(t, 3, mode, someUps(3, 24)...).store, impl.ErrMany)
	}
}

// The setting ahead of the number of entries, that ahead of the entries, and these ahead of the Signers of the first one.
func TestP11StoreFaultOfParts(t *testing.T) {
	bare := withChange(someHeader(), func(h *impl.Header) { h.Signers = nil })
	many, few := someUps(4, 24), someUps(4, 4)
	for _, change := range configChanges() {
		for _, s := range []impl.Store{
			{Config: rare(1)}, looseStore(rare(1), someHeader(), many...), looseStore(rare(2), bare, many...), looseStore(rare(2), bare, few...),
			{Config: often(1), Entries: make([]impl.Entry, 3)}, {Config: often(1), Entries: make([]impl.Entry, 25)},
		} {
			wantStoreFault(t, "a setting and more", withStore(s, change), impl.ErrRange)
		}
	}
	full := looseStore(rare(1), someHeader(), many...)
	for _, at := range []int{0, 1, 12, 23, 24} {
		for _, row := range entryChanges(full, at) {
			wantStoreFault(t, "25 and a fault", faultAt(full, at, row), impl.ErrMany)
		}
	}
	wantStoreFault(t, "25 and no Signers", looseStore(rare(1), bare, many...), impl.ErrMany)
	for _, none := range [][][]byte{nil, {}} {
		h := withChange(bare, func(h *impl.Header) { h.Signers = none })
		for count := range 24 {
			wantFaultOfAll(t, looseStore(often(1), h, someUps(5, count)...), impl.ErrNone)
		}
		s := looseStore(rare(2), h, few...)
		for at := range s.Entries {
			for _, row := range entryChanges(s, at) {
				wantStoreFault(t, "a fault and no Signers", faultAt(s, at, row), row.code)
			}
		}
	}
	// Others need no Signers.
	s := firstAs(rare(1), someHeader())
	s = putAs(s, 0, withChange(bare, func(h *impl.Header) { h.Parent, h.Number = s.Entries[0].Hash, 301 }))
	wantStoreFault(t, "a second one without Signers", s, impl.OK)
}

// Each Up that an entry may be told, with all else as it is.
func TestP11StoreFaultOfUps(t *testing.T) {
	for _, s := range append(looseStores(9), groveOf(t, 6, impl.ModeTurns, someUps(6, 9)...).store) {
		for at, e := range s.Entries {
			for _, up := range append(wrongUps(at), -1, 0, 1, 5, 8, 9, 10) {
				code := int64(impl.ErrForm)
				switch {
				case up == e.Up:
					code = impl.OK
				case up < 0 || up >= int64(at):
					code = impl.ErrRange
				}
				wantStoreFault(t, "some Up", withStore(s, func(s *impl.Store) { s.Entries[at].Up = up }), code)
			}
		}
	}
}

// Totals that sum up: each is that of its parent and its Hard, and nothing near it.
func TestP11StoreFaultOfTotals(t *testing.T) {
	for hard := range int64(10) {
		genesis := withChange(someHeader(), func(h *impl.Header) { h.Hard = hard })
		for _, ups := range shapes(12) {
			s := looseStore(rare(2), genesis, ups...)
			wantStoreFault(t, "totals", s, impl.OK)
			for at := range s.Entries {
				for _, more := range []int64{-9, -1, 1, 9} {
					changed := withStore(s, func(s *impl.Store) { s.Entries[at].Total[0] += more })
					wantStoreFault(t, "another Total", changed, impl.ErrState)
				}
			}
		}
	}
	// Of what does not add up the first one is told, though those behind it add up to it.
	s := withStore(looseStore(rare(1), someHeader(), lineUps(5)...), func(s *impl.Store) {
		for at := range s.Entries {
			s.Entries[at].Total[0]++
		}
	})
	wantStoreFault(t, "totals that begin one above", s, impl.ErrState)
}

// Long runs of stores with few faults, any of them: what is told is what the chapter says.
func TestP11StoreFaultAsTold(t *testing.T) {
	r := rand.New(rand.NewPCG(103, 104))
	grounds := append(faultyGrounds(t), looseStores(20)...)
	bare := withChange(someHeader(), func(h *impl.Header) { h.Signers = nil })
	grounds = append(grounds, looseStore(often(1), bare, someUps(7, 8)...), looseStore(rare(1), bare, someUps(8, 24)...))
	told := map[int64]int{}
	for range 4000 {
		s := cloneStore(grounds[r.IntN(len(grounds))])
		if r.IntN(15) == 0 {
			changes := configChanges()
			changes[r.IntN(len(changes))](&s)
		}
		for range r.IntN(4) {
			at := r.IntN(len(s.Entries))
			rows := slices.DeleteFunc(entryChanges(s, at), func(row entryChange) bool { return row.stage == 5 && len(s.Entries[at].Total) != 8 })
			rows[r.IntN(len(rows))].change(&s.Entries[at])
			if impl.HeaderFault(s.Entries[at].Header) != impl.OK {
				break
			}
		}
		if r.IntN(10) == 0 {
			at := r.IntN(len(s.Entries))
			s.Entries = slices.Delete(s.Entries, at, at+1)
		}
		code := storeFaultAs(s)
		told[code]++
		if got := impl.StoreFault(s); got != code {
			t.Fatalf("StoreFault of %+v: %d, want %d", s, got, code)
		}
	}
	for _, code := range []int64{impl.OK, impl.ErrForm, impl.ErrMany, impl.ErrRange, impl.ErrNone, impl.ErrTaken, impl.ErrSign, impl.ErrState} {
		if told[code] < 20 {
			t.Errorf("the code %d was told %d times", code, told[code])
		}
	}
}

func TestP11NewStore(t *testing.T) {
	for _, mode := range modes() {
		for _, c := range []impl.Config{rare(mode), often(mode), {Mode: mode, Period: 1, Epoch: 1}, {Mode: mode, Period: 100, Epoch: 100}} {
			for n := 1; n <= 7; n++ {
				genesis := impl.GenesisOf(risingAddrs(n), fill(32)).Header
				for _, number := range []int64{0, 1, 300, topNumber} {
					genesis.Number = number
					got := impl.NewStore(c, genesis)
					wantStore(t, "NewStore", got, impl.OK, 0, firstAs(c, genesis))
					wantStoreFault(t, "a new store", got.Store, impl.OK)
					wantSnap(t, "SnapAt the first one", impl.SnapAt(got.Store, 0), impl.OK, impl.Snap{Number: number, Signers: risingAddrs(n)})
				}
			}
			for hard := range int64(10) {
				genesis := withChange(someHeader(), func(h *impl.Header) { h.Hard = hard })
				got := impl.NewStore(c, genesis)
				wantStore(t, "NewStore of some header", got, impl.OK, 0, firstAs(c, genesis))
				e := got.Store.Entries[0]
				if e.Up != -1 || !slices.Equal(e.Total, []int64{hard, 0, 0, 0, 0, 0, 0, 0}) || !equalHeaders(e.Header, genesis) || !bytes.Equal(e.Hash, impl.HashOf(genesis).Bytes) {
					t.Errorf("a first entry: %+v", e)
				}
			}
		}
	}
	for _, h := range manyHeaders(60) {
		if len(h.Signers) > 0 {
			wantStore(t, "NewStore of any header", impl.NewStore(rare(2), h), impl.OK, 0, firstAs(rare(2), h))
		}
	}
}

// The setting ahead of the header, and that ahead of its Signers.
func TestP11NewStoreTheFirstCode(t *testing.T) {
	good := impl.GenesisOf(risingAddrs(3), fill(32)).Header
	bare := withChange(good, func(h *impl.Header) { h.Signers = nil })
	empty := withChange(good, func(h *impl.Header) { h.Signers = [][]byte{} })
	headers := []impl.Header{good, bare, empty, {}}
	for _, row := range headerFaultChanges() {
		headers = append(headers, withChange(good, row.change), withChange(bare, row.change))
		for _, genesis := range []impl.Header{good, bare, empty, someHeader(), fullHeader()} {
			wantStore(t, "NewStore of a header with a fault", impl.NewStore(rare(1), withChange(genesis, row.change)), row.code, 0, impl.Store{})
		}
	}
	for _, change := range configChanges() {
		s := impl.Store{Config: rare(2)}
		change(&s)
		for _, h := range headers {
			wantStore(t, "NewStore with a setting that has a fault", impl.NewStore(s.Config, h), impl.ErrRange, 0, impl.Store{})
		}
	}
	for _, c := range []impl.Config{rare(1), often(2)} {
		for _, h := range []impl.Header{bare, empty, bareHeader()} {
			wantStore(t, "NewStore of a header without Signers", impl.NewStore(c, h), impl.ErrNone, 0, impl.Store{})
		}
	}
}
