package tests

import (
	"bytes"
	"math"
	"reflect"
	"slices"
	"testing"

	"loop.example/g00383/impl"
)

// storeArguments are stores of every kind that chapter 10 tells apart, with and without a fault.
func storeArguments(t *testing.T) []impl.Store {
	t.Helper()
	stores := []impl.Store{{}, {Config: rare(1)}, knownStore(1), knownStore(2), {Config: often(1), Entries: make([]impl.Entry, 3)}}
	for _, g := range slices.Concat(someGroves(t, 0), someGroves(t, 4), someGroves(t, 23)[:3]) {
		stores = append(stores, g.store)
	}
	stores = append(stores, looseStores(5)...)
	stores = append(stores, looseStores(24)[:2]...)
	for _, s := range faultyGrounds(t)[1:3] {
		for _, at := range []int{0, 5} {
			for i, row := range entryChanges(s, at) {
				if i%3 == 0 {
					stores = append(stores, faultAt(s, at, row))
				}
			}
		}
	}
	bare := withChange(someHeader(), func(h *impl.Header) { h.Signers = nil })
	stores = append(stores, firstAs(rare(1), bare), looseStore(often(2), bare, someUps(9, 6)...))
	for _, up := range []int64{math.MinInt64, math.MaxInt64} {
		stores = append(stores, withStore(knownStore(1), func(s *impl.Store) {
			s.Config = impl.Config{Mode: 1, Period: 1, Epoch: 1}
			s.Entries[3].Up, s.Entries[3].Total = up, slices.Repeat([]int64{up}, 8)
		}))
	}
	for _, h := range headerArguments() {
		if len(h.Commits) < 1000 {
			stores = append(stores, impl.Store{Config: rare(2), Entries: []impl.Entry{{Header: h, Hash: h.Parent, Up: h.Number, Total: []int64{h.Hard}}}})
		}
	}
	return stores
}

// headersFor are such as are to be put to a store: what is in it, what may follow, and others.
func headersFor(s impl.Store) []impl.Header {
	headers := []impl.Header{{}, someHeader(), fullHeader()}
	for at, e := range s.Entries[:min(3, len(s.Entries))] {
		headers = append(headers, e.Header, strayBehind(e, byte(at)))
		if len(e.Hash) == 32 && impl.HeaderFault(e.Header) == impl.OK {
			if snap := impl.SnapAt(s, int64(at)).Snap; len(snap.Signers) > 0 {
				signers := snap.Signers
				headers = append(headers, impl.MakeNext(s.Config, snap, e.Header, signers[len(signers)-1], outsider(at), true).Header)
				headers = append(headers, impl.MakeNext(s.Config, snap, e.Header, signers[0], nil, true).Header)
			}
		}
	}
	return headers
}

func hashesFor(s impl.Store) [][]byte {
	hashes := [][]byte{nil, {}, fill(32), make([]byte, 32), fill(1201)}
	for _, e := range s.Entries[:min(5, len(s.Entries))] {
		hashes = append(hashes, e.Hash, e.Header.Parent)
	}
	return hashes
}

func placesFor(s impl.Store) []int64 {
	count := int64(len(s.Entries))
	return []int64{math.MinInt64, -1, 0, 1, count / 2, count - 1, count, count + 1, math.MaxInt64}
}

type storeAnswers struct {
	Fault []int64
	New   []impl.StoreResult
	Found []impl.IntResult
	Line  []impl.IntsResult
	Snap  []impl.SnapResult
	Added []impl.StoreResult
}

// askStore calls each function of chapter 10 with a store, and with what is told for it.
func askStore(s impl.Store, headers []impl.Header, hashes [][]byte, places []int64) storeAnswers {
	all := storeAnswers{Fault: []int64{impl.StoreFault(s)}}
	for _, h := range headers {
		all.New = append(all.New, impl.NewStore(s.Config, h))
		all.Added = append(all.Added, impl.AddHeader(s, h))
	}
	for _, hash := range hashes {
		all.Found = append(all.Found, impl.FindEntry(s, hash))
	}
	for _, place := range places {
		all.Line = append(all.Line, impl.LineOf(s, place))
		all.Snap = append(all.Snap, impl.SnapAt(s, place))
	}
	return all
}

func askOneStore(s impl.Store) storeAnswers {
	return askStore(s, headersFor(s), hashesFor(s), placesFor(s))
}

func sameStoreResult(a impl.StoreResult, b impl.StoreResult) bool {
	return a.Code == b.Code && a.Place == b.Place && equalStores(a.Store, b.Store)
}

// sameStoreAnswers holds them against each other; nil and empty are the same.
func sameStoreAnswers(a storeAnswers, b storeAnswers) bool {
	stores := slices.EqualFunc(a.New, b.New, sameStoreResult) && slices.EqualFunc(a.Added, b.Added, sameStoreResult)
	lines := slices.EqualFunc(a.Line, b.Line, func(a, b impl.IntsResult) bool { return a.Code == b.Code && slices.Equal(a.List, b.List) })
	return stores && lines && slices.Equal(a.Fault, b.Fault) && slices.Equal(a.Found, b.Found) && slices.EqualFunc(a.Snap, b.Snap, sameSnapResult)
}

// wantStoreOr: a store without a fault, whose last entry is at the place, or nothing beside one of the codes.
func wantStoreOr(t *testing.T, call string, at int, r impl.StoreResult, codes ...int64) {
	t.Helper()
	nothing := impl.StoreResult{Code: r.Code}
	right := r.Code == impl.OK && impl.StoreFault(r.Store) == impl.OK && r.Place == int64(len(r.Store.Entries))-1
	if !right && (r.Code == impl.OK || !slices.Contains(codes, r.Code) || !reflect.DeepEqual(r, nothing)) {
		t.Errorf("%s at %d: %+v", call, at, r)
	}
}

func TestP1StoreAnswersAtEveryArgument(t *testing.T) {
	faults := []int64{impl.ErrForm, impl.ErrMany, impl.ErrRange, impl.ErrNone, impl.ErrTaken, impl.ErrSign, impl.ErrState}
	rules := append(slices.Clone(faults), impl.ErrRule, impl.ErrFull)
	told, added := map[int64]bool{}, map[int64]bool{}
	for i, s := range storeArguments(t) {
		all := askOneStore(s)
		told[all.Fault[0]] = true
		for _, r := range all.New {
			wantStoreOr(t, "NewStore", i, r, impl.ErrForm, impl.ErrMany, impl.ErrRange, impl.ErrNone)
		}
		for _, r := range all.Added {
			wantStoreOr(t, "AddHeader", i, r, rules...)
			added[r.Code] = true
		}
		for _, r := range all.Found {
			wantIntOrCode(t, "FindEntry", i, r, int64(len(s.Entries))-1, faults...)
		}
		for _, r := range all.Line {
			wantLength(t, "LineOf", i, r.Code, min(1, len(r.List)), faults, 1)
			if len(r.List) > len(s.Entries) {
				t.Errorf("LineOf at %d: %d of %d", i, len(r.List), len(s.Entries))
			}
		}
		for _, r := range all.Snap {
			wantSnapOrCode(t, "SnapAt", i, r, rules...)
		}
		if code := all.Fault[0]; code != impl.OK && !slices.Contains(faults, code) {
			t.Errorf("StoreFault at %d: %d", i, code)
		}
	}
	for _, code := range append(faults, impl.OK) {
		if !told[code] || !added[code] {
			t.Errorf("the code %d is never told", code)
		}
	}
}

// roomyStore is the same store, in memory with more room than it shows.
func roomyStore(s impl.Store) impl.Store {
	var entries []impl.Entry
	for _, e := range s.Entries {
		entries = append(entries, impl.Entry{Header: roomyHeader(e.Header), Hash: withRoom(e.Hash, 7), Up: e.Up, Total: withRoom(e.Total, 7)})
	}
	return impl.Store{Config: s.Config, Entries: withRoom(entries, impl.Entry{Header: someHeader(), Hash: fill(32), Up: 7})}
}

// wholeStore copies all that a store may reach, the room behind it too.
func wholeStore(s impl.Store) impl.Store {
	whole := impl.Store{Config: s.Config}
	for _, e := range s.Entries[:cap(s.Entries)] {
		entry := impl.Entry{Header: wholeHeader(e.Header), Hash: bytes.Clone(e.Hash[:cap(e.Hash)]), Up: e.Up, Total: slices.Clone(e.Total[:cap(e.Total)])}
		whole.Entries = append(whole.Entries, entry)
	}
	return whole
}

func TestP1StoreHangsOnTheArgumentsAlone(t *testing.T) {
	for i, s := range storeArguments(t) {
		first := askOneStore(s)
		if !reflect.DeepEqual(first, askOneStore(s)) || !sameStoreAnswers(first, askOneStore(cloneStore(s))) {
			t.Errorf("the store at %d is answered otherwise another time", i)
		}
		roomy := askStore(roomyStore(s), roomyHeaders(headersFor(s)), allWithRoom(hashesFor(s), 9), placesFor(s))
		if !sameStoreAnswers(first, roomy) {
			t.Errorf("the answers at %d hang on what is behind an argument", i)
		}
	}
}

// emptied gives a header what is empty for what is nil.
func emptied(h *impl.Header) {
	for _, data := range headerData(h) {
		if len(*data) == 0 {
			*data = []byte{}
		}
	}
	for _, list := range []*[][]byte{&h.Signers, &h.Commits} {
		if len(*list) == 0 {
			*list = [][]byte{}
		}
	}
}

// emptiedStore is the same store, with what is empty for what is nil.
func emptiedStore(s impl.Store) impl.Store {
	return withStore(s, func(s *impl.Store) {
		s.Entries = append([]impl.Entry{}, s.Entries...)
		for at := range s.Entries {
			emptied(&s.Entries[at].Header)
			s.Entries[at].Hash = append([]byte{}, s.Entries[at].Hash...)
			s.Entries[at].Total = append([]int64{}, s.Entries[at].Total...)
		}
	})
}

// Empty and nil are the same value, wherever they stand.
func TestP1StoreOfNilAndEmpty(t *testing.T) {
	for i, s := range storeArguments(t) {
		headers := headersFor(s)
		for at := range headers {
			headers[at] = withChange(headers[at], emptied)
		}
		if !sameStoreAnswers(askOneStore(s), askStore(emptiedStore(s), headers, hashesFor(s), placesFor(s))) {
			t.Errorf("the store at %d is answered otherwise with what is empty, not nil", i)
		}
	}
}

// Asked in other company each is answered the same.
func TestP1StoreAnswersTheSameBehindOthers(t *testing.T) {
	s := knownStore(impl.ModeCommits)
	first := askOneStore(s)
	for i, other := range storeArguments(t) {
		askOneStore(other)
		if i%8 == 0 && !sameStoreAnswers(first, askOneStore(s)) {
			t.Errorf("behind the store at %d another one is answered otherwise", i)
		}
	}
	if !sameStoreAnswers(first, askOneStore(s)) {
		t.Error("behind all others a store is answered otherwise")
	}
}

func TestP1StoreAnswersSideBySide(t *testing.T) {
	wantSideBySide(t, 10, func(i int) func() bool {
		g := groveOf(t, uint64(200+i), modes()[i%2], someUps(uint64(i), 8+i)...)
		last := len(g.store.Entries) - 1
		first := withStore(g.store, func(s *impl.Store) { s.Entries = s.Entries[:last] })
		e := g.store.Entries[last]
		return func() bool {
			added := impl.AddHeader(first, e.Header)
			same := added.Code == impl.OK && added.Place == int64(last) && equalStores(added.Store, g.store) && impl.StoreFault(g.store) == impl.OK
			same = same && equalSnaps(impl.SnapAt(g.store, int64(last)).Snap, g.snaps[last]) && slices.Equal(impl.LineOf(g.store, int64(last)).List, lineAs(g.store, last))
			same = same && impl.FindEntry(g.store, e.Hash).Value == int64(last) && impl.FindEntry(first, e.Hash).Code == impl.ErrNone
			return same && equalStores(impl.NewStore(g.store.Config, first.Entries[0].Header).Store, firstAs(g.store.Config, first.Entries[0].Header))
		}
	})
}

func TestP1StoreChangesNoArgument(t *testing.T) {
	for i, s := range storeArguments(t) {
		shown, headers, hashes := roomyStore(s), roomyHeaders(headersFor(s)), allWithRoom(hashesFor(s), 9)
		// What a store holds is told as a header and as a hash too.
		for _, e := range shown.Entries[:min(2, len(shown.Entries))] {
			headers, hashes = append(slices.Clone(headers), e.Header), append(hashes, e.Hash)
		}
		store, told, beside := wholeStore(shown), wholeHeaders(headers), wholeLists(hashes)
		askStore(shown, headers, hashes, placesFor(s))
		if !reflect.DeepEqual(wholeStore(shown), store) || !reflect.DeepEqual(wholeHeaders(headers), told) || !reflect.DeepEqual(wholeLists(hashes), beside) {
			t.Errorf("what is told at %d, or what is behind it, was changed", i)
		}
	}
}

// memoryOfStore are all bytes of a store; each with the room behind it.
func memoryOfStore(s impl.Store) [][]byte {
	var all [][]byte
	for _, e := range s.Entries {
		all = append(append(all, memoryOf(e.Header)...), e.Hash)
	}
	return all
}

func spoilStore(s impl.Store) {
	for _, e := range s.Entries {
		spoilHeader(e.Header)
		spoil(e.Hash, 77)
		spoil(e.Total, 77)
	}
	spoil(s.Entries, impl.Entry{Up: 77})
}

// wantStoresApart: a store that was told is changed, the room behind all of it too; nothing else is.
func wantStoresApart(t *testing.T, call string, ask func() impl.StoreResult, place int64, want impl.Store) {
	t.Helper()
	one, two := ask(), ask()
	spoilStore(one.Store)
	wantStore(t, call+" beside a changed answer", two, impl.OK, place, want)
	got := ask()
	wantStore(t, call+" behind a changed answer", got, impl.OK, place, want)
	memory := memoryOfStore(got.Store)
	for changed := range memory {
		before := cloneLists(memory)
		spoil(memory[changed], byte(60+changed%100))
		for at := range memory {
			if at != changed && !bytes.Equal(memory[at], before[at]) {
				t.Errorf("%s: the bytes at %d are changed with those at %d", call, at, changed)
			}
		}
	}
	wantListsApart(t, call, ask().Store, want)
}

// wantListsApart: the lists of one entry that are changed leave all others as they are.
func wantListsApart(t *testing.T, call string, s impl.Store, want impl.Store) {
	t.Helper()
	for changed := range s.Entries {
		spoil(s.Entries[changed].Total, 77)
		spoil(s.Entries[changed].Header.Signers, []byte{77})
		if e := s.Entries[changed]; !equalLists(e.Header.Commits, want.Entries[changed].Header.Commits) {
			t.Errorf("%s: the Commits at %d are changed with Signers", call, changed)
		}
		spoil(s.Entries[changed].Header.Commits, []byte{77})
		for at := changed + 1; at < len(s.Entries); at++ {
			if !equalEntries(s.Entries[at], want.Entries[at]) {
				t.Errorf("%s: the entry at %d is changed with that at %d", call, at, changed)
			}
		}
	}
}

// wantIntsApart: a list that was told is changed, the room behind it too; no other answer is.
func wantIntsApart(t *testing.T, call string, ask func() impl.IntsResult, want []int64) {
	t.Helper()
	one, two := ask(), ask()
	_ = append(one.List, 77, 77)
	spoil(one.List, 77)
	wantInts(t, call+" beside a changed answer", two, impl.OK, want)
	wantInts(t, call+" behind a changed answer", ask(), impl.OK, want)
}

// apartGroves are such as AddHeader, LineOf and SnapAt do each thing with that they may do.
func apartGroves(t *testing.T) []grove {
	t.Helper()
	groves := append(someGroves(t, 0)[:2], someGroves(t, 5)...)
	return append(groves, wrongGroves(t)...)
}

func TestP1StoreSharesNoMemory(t *testing.T) {
	for i, g := range apartGroves(t) {
		s, genesis := roomyStore(g.store), roomyHeader(g.store.Entries[0].Header)
		before, beforeGenesis := wholeStore(s), wholeHeader(genesis)
		wantStoresApart(t, "NewStore", func() impl.StoreResult { return impl.NewStore(s.Config, genesis) }, 0, firstAs(s.Config, g.store.Entries[0].Header))
		for place, x := range g.snaps {
			plain := g.draft(place, g.free(place)[0]).with(func(d *draft) { d.next.Time += 3 }).finished().next
			h := roomyHeader(plain)
			beside := wholeHeader(h)
			wantStoresApart(t, "AddHeader", func() impl.StoreResult { return impl.AddHeader(s, h) }, int64(len(s.Entries)), putAs(g.store, place, plain))
			wantIntsApart(t, "LineOf", func() impl.IntsResult { return impl.LineOf(s, int64(place)) }, lineAs(g.store, place))
			wantSnapsApart(t, "SnapAt", func() impl.SnapResult { return impl.SnapAt(s, int64(place)) }, x)
			if !reflect.DeepEqual(wholeHeader(h), beside) {
				t.Errorf("a header for the store at %d is changed with an answer", i)
			}
		}
		if !reflect.DeepEqual(wholeStore(s), before) || !reflect.DeepEqual(wholeHeader(genesis), beforeGenesis) {
			t.Errorf("the store at %d, or its first header, is changed with an answer", i)
		}
	}
}

// entwinedStore is a store whose entries share all the memory that they can, and a header that may follow the last of them.
func entwinedStore(t *testing.T, mode int64) (impl.Store, impl.Header) {
	t.Helper()
	genesis := impl.GenesisOf(risingAddrs(3), make([]byte, 32)).Header
	g := planted(impl.Config{Mode: mode, Period: 1, Epoch: 2}, genesis)
	for at, up := range []int{0, 0, 1} {
		g = g.grown(t, up, g.draft(up, g.free(up)[at%2]).with(func(d *draft) { d.next.Receipts = make([]byte, 32) }).finished().next)
	}
	h := g.draft(3, g.free(3)[0]).with(func(d *draft) { d.next.Receipts = make([]byte, 32) }).finished().next
	s, zeros, signers := cloneStore(g.store), make([]byte, 32), risingAddrs(3)
	tie := func(h *impl.Header) {
		h.Receipts = zeros
		h.Signer = signers[slices.IndexFunc(signers, func(one []byte) bool { return bytes.Equal(one, h.Signer) })]
		if len(h.Signers) > 0 {
			h.Signers = signers
		}
	}
	for at := range s.Entries {
		e := &s.Entries[at]
		tie(&e.Header)
		if at == 0 {
			e.Header.Parent = zeros
			continue
		}
		e.Header.Parent = s.Entries[e.Up].Hash
		for other := range at {
			if slices.Equal(s.Entries[other].Total, e.Total) {
				e.Total = s.Entries[other].Total
			}
		}
	}
	tie(&h)
	h.Parent = s.Entries[3].Hash
	return s, h
}

// Arguments that share all the memory that they can: what is told of them comes apart.
func TestP1StoreOfOneMemoryComesApart(t *testing.T) {
	for _, mode := range modes() {
		s, h := entwinedStore(t, mode)
		plain, header := cloneStore(s), cloneHeader(h)
		wantStoreFault(t, "a store of one memory", s, impl.OK)
		wantStoresApart(t, "AddHeader", func() impl.StoreResult { return impl.AddHeader(s, h) }, 4, putAs(plain, 3, header))
		wantStoresApart(t, "NewStore", func() impl.StoreResult { return impl.NewStore(s.Config, s.Entries[0].Header) }, 0, firstAs(s.Config, plain.Entries[0].Header))
		for place := range s.Entries {
			_, x := snapAtAs(plain, place)
			wantSnapsApart(t, "SnapAt", func() impl.SnapResult { return impl.SnapAt(s, int64(place)) }, x)
		}
		if !equalStores(s, plain) || !equalHeaders(h, header) {
			t.Error("an argument that shares memory is changed with an answer")
		}
	}
}

func TestP1StoreAnswersDoNotFollowTheirArguments(t *testing.T) {
	for _, g := range apartGroves(t) {
		for place, x := range g.snaps {
			s, genesis, header := cloneStore(g.store), cloneHeader(g.store.Entries[0].Header), g.draft(place, g.free(place)[0])
			plain := header.with(func(d *draft) { d.next.Time += 3 }).finished().next
			h := cloneHeader(plain)
			added, begun := impl.AddHeader(s, h), impl.NewStore(s.Config, genesis)
			line, snap := impl.LineOf(s, int64(place)), impl.SnapAt(s, int64(place))
			spoilStore(s)
			spoilHeader(h)
			spoilHeader(genesis)
			wantStore(t, "AddHeader, its arguments changed since", added, impl.OK, int64(len(s.Entries)), putAs(g.store, place, plain))
			wantStore(t, "NewStore, its argument changed since", begun, impl.OK, 0, firstAs(g.store.Config, g.store.Entries[0].Header))
			wantInts(t, "LineOf, its argument changed since", line, impl.OK, lineAs(g.store, place))
			wantSnap(t, "SnapAt, its argument changed since", snap, impl.OK, x)
		}
	}
}
