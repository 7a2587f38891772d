package tests

import (
	"bytes"
	"math"
	"math/rand/v2"
	"reflect"
	"slices"
	"testing"

	"loop.example/g00383/impl"
)

func cloneHeaders(headers []impl.Header) []impl.Header {
	var cloned []impl.Header
	for _, h := range headers {
		cloned = append(cloned, cloneHeader(h))
	}
	return cloned
}

// cloneClient is the same client in other memory.
func cloneClient(c impl.Client) impl.Client {
	return impl.Client{Store: cloneStore(c.Store), Cache: cloneCache(c.Cache), Orphans: cloneHeaders(c.Orphans)}
}

// withClient is a client in other memory, behind some changes.
func withClient(c impl.Client, changes ...func(c *impl.Client)) impl.Client {
	c = cloneClient(c)
	for _, change := range changes {
		change(&c)
	}
	return c
}

func equalClients(a impl.Client, b impl.Client) bool {
	return equalStores(a.Store, b.Store) && equalCaches(a.Cache, b.Cache) && slices.EqualFunc(a.Orphans, b.Orphans, equalHeaders)
}

func sameClientResult(a impl.ClientResult, b impl.ClientResult) bool {
	return a.Code == b.Code && a.Joined == b.Joined && equalClients(a.Client, b.Client)
}

func sameClientSnap(a impl.ClientSnap, b impl.ClientSnap) bool {
	return a.Code == b.Code && equalSnaps(a.Snap, b.Snap) && equalClients(a.Client, b.Client)
}

func wantClient(t *testing.T, call string, got impl.ClientResult, want impl.ClientResult) {
	t.Helper()
	if !sameClientResult(got, want) || got.Code != impl.OK && !reflect.DeepEqual(got, impl.ClientResult{Code: want.Code}) {
		t.Errorf("%s: %+v, want %+v", call, got, want)
	}
}

func wantClientSnap(t *testing.T, call string, got impl.ClientSnap, want impl.ClientSnap) {
	t.Helper()
	if !sameClientSnap(got, want) || got.Code != impl.OK && !reflect.DeepEqual(got, impl.ClientSnap{Code: want.Code}) {
		t.Errorf("%s: %+v, want %+v", call, got, want)
	}
}

// What the chapter says, reckoned a second time; faults of headers are the program's.

func clientFaultAs(c impl.Client) int64 {
	if code := cacheFaultAs(c.Store, c.Cache); code != impl.OK {
		return code
	}
	if len(c.Orphans) > 6 {
		return impl.ErrMany
	}
	entries, seen := map[string]bool{}, map[string]bool{}
	for _, e := range c.Store.Entries {
		entries[string(e.Hash)], seen[string(e.Hash)] = true, true
	}
	for _, h := range c.Orphans {
		if code := impl.HeaderFault(h); code != impl.OK {
			return code
		}
		hash := string(hashAs(h, h.Seal))
		if seen[hash] {
			return impl.ErrTaken
		}
		seen[hash] = true
		if entries[string(h.Parent)] {
			return impl.ErrState
		}
	}
	return impl.OK
}

func entryWith(s impl.Store, hash []byte) int {
	return slices.IndexFunc(s.Entries, func(e impl.Entry) bool { return bytes.Equal(e.Hash, hash) })
}

// joinAs is a client without a fault whose last entry is a header; with a code it is the client as it was.
func joinAs(c impl.Client, h impl.Header) (int64, impl.Client) {
	up := entryWith(c.Store, h.Parent)
	looked := lookAs(c.Store, c.Cache, int64(up))
	if looked.Code != impl.OK {
		return looked.Code, c
	}
	if code := checkNextAs(c.Store.Config, looked.Snap, c.Store.Entries[up].Header, h); code != impl.OK {
		return code, c
	}
	if len(c.Store.Entries) == 24 {
		return impl.ErrFull, c
	}
	return impl.OK, impl.Client{Store: putAs(c.Store, up, h), Cache: looked.Cache, Orphans: c.Orphans}
}

// submitAs is what the chapter says of a header that is handed in.
func submitAs(c impl.Client, h impl.Header) impl.ClientResult {
	if code := firstOf(clientFaultAs(c), impl.HeaderFault(h)); code != impl.OK {
		return impl.ClientResult{Code: code}
	}
	c = cloneClient(c)
	hash := hashAs(h, h.Seal)
	waits := slices.ContainsFunc(c.Orphans, func(o impl.Header) bool { return bytes.Equal(hashAs(o, o.Seal), hash) })
	if waits || entryWith(c.Store, hash) >= 0 {
		return impl.ClientResult{Code: impl.ErrTaken}
	}
	if entryWith(c.Store, h.Parent) < 0 {
		if len(c.Orphans) == 6 {
			return impl.ClientResult{Code: impl.ErrFull}
		}
		c.Orphans = append(c.Orphans, cloneHeader(h))
		return impl.ClientResult{Client: c}
	}
	code, then := joinAs(c, h)
	if code != impl.OK {
		return impl.ClientResult{Code: code}
	}
	isReady := func(o impl.Header) bool { return entryWith(then.Store, o.Parent) >= 0 }
	for at := slices.IndexFunc(then.Orphans, isReady); at >= 0; at = slices.IndexFunc(then.Orphans, isReady) {
		ready := then.Orphans[at]
		then.Orphans = slices.Delete(cloneHeaders(then.Orphans), at, at+1)
		_, then = joinAs(then, ready)
	}
	return impl.ClientResult{Joined: int64(len(then.Store.Entries) - len(c.Store.Entries)), Client: then}
}

// stray is a header whose parent is nowhere.
func stray(mark byte) impl.Header {
	return withChange(someHeader(), func(h *impl.Header) { h.Parent = bytes.Repeat([]byte{mark, 0xee}, 16) })
}

func strays(count int) []impl.Header {
	var headers []impl.Header
	for mark := range count {
		headers = append(headers, stray(byte(mark)))
	}
	return headers
}

// behindHeader is a header whose parent is another one, be that there or not.
func behindHeader(h impl.Header, mark byte) impl.Header {
	return strayBehind(impl.Entry{Header: h, Hash: hashAs(h, h.Seal)}, mark)
}

// clientOf is one of a store, with a cache of the snapshots behind some places.
func clientOf(s impl.Store, orphans []impl.Header, size int64, places ...int64) impl.Client {
	return impl.Client{Store: cloneStore(s), Cache: cacheOf(s, size, places...), Orphans: cloneHeaders(orphans)}
}

// wantClientCode: what ClientFault tells is the code, and that is what the chapter says.
func wantClientCode(t *testing.T, call string, c impl.Client, code int64) {
	t.Helper()
	if told := clientFaultAs(c); told != code {
		t.Fatalf("%s: by the chapter it is %d, the test wants %d: %+v", call, told, code, c)
	}
	if got := impl.ClientFault(c); got != code {
		t.Errorf("ClientFault of %s: %d, want %d: %+v", call, got, code, c)
	}
}

// wantClientFault asks the others too: with a code they tell it alone, whatever else they are told.
func wantClientFault(t *testing.T, call string, c impl.Client, code int64) {
	t.Helper()
	wantClientCode(t, call, c, code)
	if code == impl.OK {
		return
	}
	headers, hashes := []impl.Header{{}, someHeader(), stray(200)}, [][]byte{nil, fill(32)}
	if len(c.Store.Entries) > 0 {
		e := c.Store.Entries[0]
		headers, hashes = append(headers, e.Header, strayBehind(e, 200)), append(hashes, e.Hash)
	}
	for _, h := range headers {
		wantClient(t, "SubmitHeader to "+call, impl.SubmitHeader(c, h), impl.ClientResult{Code: code})
		wantClient(t, "SubmitBytes to "+call, impl.SubmitBytes(c, impl.PackHeader(h).Bytes), impl.ClientResult{Code: code})
	}
	wantClient(t, "SubmitBytes of too many to "+call, impl.SubmitBytes(c, fill(1201)), impl.ClientResult{Code: code})
	for _, hash := range hashes {
		wantClientSnap(t, "SnapIn "+call, impl.SnapIn(c, hash), impl.ClientSnap{Code: code})
	}
	for _, at := range []int64{-1, 0, int64(len(c.Cache.Kept))} {
		wantClient(t, "EvictIn "+call, impl.EvictIn(c, at), impl.ClientResult{Code: code})
	}
	wantHeader(t, "HeadIn "+call, impl.HeadIn(c), code, impl.Header{})
	for _, index := range []int64{-1, 0, 10000} {
		for _, number := range []int64{-1, 0, 300} {
			wantTrie(t, "ReceiptIn "+call, impl.ReceiptIn(c, number, index, nil), impl.TrieResult{Code: code})
		}
	}
}

func TestP16Constants(t *testing.T) {
	if impl.MaxOrphans != 6 {
		t.Error("a constant is another one")
	}
}

// Orphans that have nothing to do with each other, and such as wait for one another, in each order.
func TestP16ClientFaultOfWhatIsRight(t *testing.T) {
	first := stray(50)
	second := behindHeader(first, 1)
	family := []impl.Header{first, second, behindHeader(second, 2), behindHeader(first, 3), stray(51), behindHeader(second, 4)}
	backwards := cloneHeaders(family)
	slices.Reverse(backwards)
	for _, mode := range modes() {
		for _, s := range []impl.Store{knownStore(mode), strayedStore(mode), groveOf(t, 7, mode).store, groveOf(t, 8, mode, someUps(8, 23)...).store} {
			for count := range 7 {
				for _, orphans := range [][]impl.Header{strays(count), family[:count], backwards[:count]} {
					wantClientFault(t, "some orphans", clientOf(s, orphans, 0), impl.OK)
					wantClientFault(t, "some orphans, and one that is kept", clientOf(s, orphans, int64(count%5)+1, 0), impl.OK)
				}
			}
			none := clientOf(s, nil, 2)
			none.Orphans = []impl.Header{}
			wantClientFault(t, "no orphans, not nil", none, impl.OK)
		}
	}
	for _, h := range manyHeaders(40) {
		wantClientFault(t, "any orphan", clientOf(knownStore(1), []impl.Header{h}, 1), impl.OK)
	}
}

// Each code that CacheFault tells, that of its store too, whatever the orphans are.
func TestP16ClientFaultOfACacheWithAFault(t *testing.T) {
	told := map[int64]int{}
	want := func(s impl.Store, k impl.Cache, code int64) {
		t.Helper()
		faulty := withChange(stray(1), func(h *impl.Header) { h.Seal = fill(3) })
		for _, orphans := range [][]impl.Header{nil, strays(3), strays(7), {faulty}, {stray(1), stray(1)}} {
			wantClientFault(t, "a cache with a fault", impl.Client{Store: s, Cache: k, Orphans: orphans}, code)
		}
		told[code]++
	}
	for _, mode := range modes() {
		s := strayedStore(mode)
		k := cacheOf(s, 5, 4, 2, 0, 5, 1)
		for _, change := range configChanges()[:4] {
			want(withStore(s, change), k, impl.ErrRange)
		}
		for i, row := range entryChanges(s, 4) {
			if i%9 == 0 || row.stage > 2 && i%4 == 0 {
				want(faultAt(s, 4, row), k, row.code)
			}
		}
		want(faultAt(s, 2, entryChange{change: func(e *impl.Entry) { *e = cloneEntry(s.Entries[1]) }}), k, impl.ErrTaken)
		want(impl.Store{Config: s.Config}, impl.Cache{}, impl.ErrMany)
		bare := withChange(someHeader(), func(h *impl.Header) { h.Signers = nil })
		want(looseStore(s.Config, bare, 0, 1), impl.Cache{}, impl.ErrNone)
		for i, row := range cacheChanges() {
			if i%4 == 0 {
				want(s, withCache(k, row.change), row.code)
			}
		}
		for i, row := range keptChanges(4) {
			if i%4 == 0 {
				want(s, withCache(k, func(k *impl.Cache) { row.change(k, 4) }), row.code)
			}
		}
		want(s, cacheOf(s, 2, 1, 1), impl.ErrTaken)
		want(s, impl.Cache{Size: 1, Kept: make([]impl.Kept, 1)}, impl.ErrState)
	}
	for _, code := range []int64{impl.ErrForm, impl.ErrMany, impl.ErrRange, impl.ErrNone, impl.ErrTaken, impl.ErrSign, impl.ErrState} {
		if told[code] < 2 {
			t.Errorf("the code %d was told %d times", code, told[code])
		}
	}
	wantClientFault(t, "nothing at all", impl.Client{}, impl.ErrRange)
}

func TestP16ClientFaultOfCounts(t *testing.T) {
	for _, mode := range modes() {
		s := knownStore(mode)
		for count := range 12 {
			code := int64(impl.OK)
			if count > 6 {
				code = impl.ErrMany
			}
			wantClientFault(t, "some orphans", clientOf(s, strays(count), 3, 1), code)
		}
		// Those that are too many may have what faults they like.
		for _, orphans := range [][]impl.Header{
			make([]impl.Header, 7), make([]impl.Header, 1<<10), slices.Repeat([]impl.Header{stray(1)}, 7), slices.Repeat([]impl.Header{s.Entries[1].Header}, 7),
			append(strays(6), impl.Header{}), append(strays(6), stray(1)), append(strays(6), strayBehind(s.Entries[5], 1)),
		} {
			wantClientFault(t, "too many orphans", clientOf(s, orphans, 3, 1), impl.ErrMany)
		}
		wantClientFault(t, "six that are nothing", clientOf(s, make([]impl.Header, 6), 3, 1), impl.ErrForm)
	}
}

// At each place of each count, the first, the last and those in the midst.
func TestP16ClientFaultOfHeaders(t *testing.T) {
	for _, mode := range modes() {
		s := knownStore(mode)
		for count := 1; count <= 6; count++ {
			for at := range count {
				for i, row := range headerFaultChanges() {
					orphans := strays(count)
					row.change(&orphans[at])
					c := clientOf(s, orphans, 1, 0)
					wantClientCode(t, "an orphan with a fault", c, row.code)
					if i%5 == at%5 {
						wantClientFault(t, "an orphan with a fault", c, row.code)
					}
				}
			}
		}
	}
}

// Two orphans with one hash: side by side, with others between, with other Commits; and orphans that are entries.
func TestP16ClientFaultOfWhatIsTaken(t *testing.T) {
	for _, mode := range modes() {
		s := knownStore(mode)
		for count := 2; count <= 6; count++ {
			for late := 1; late < count; late++ {
				for early := range late {
					orphans := strays(count)
					orphans[late] = cloneHeader(orphans[early])
					wantClientFault(t, "two orphans with one hash", clientOf(s, orphans, 0), impl.ErrTaken)
					orphans[late].Commits = someCommits(late)
					wantClientCode(t, "two orphans with one hash and other Commits", clientOf(s, orphans, 0), impl.ErrTaken)
					orphans[late].Seal = flipped([]byte{1, 2, 3, 4}, late)
					wantClientCode(t, "two orphans with other Seals", clientOf(s, orphans, 0), impl.OK)
				}
			}
		}
		for _, e := range s.Entries {
			for at := range 4 {
				orphans := strays(4)
				orphans[at] = cloneHeader(e.Header)
				wantClientFault(t, "an orphan that is an entry", clientOf(s, orphans, 2), impl.ErrTaken)
				orphans[at].Commits = someCommits(at)
				wantClientCode(t, "an orphan that is an entry, with other Commits", clientOf(s, orphans, 2), impl.ErrTaken)
			}
		}
	}
}

// The parent of an orphan is an entry: each of them, that which may not follow too; it may be another orphan, or that one's parent.
func TestP16ClientFaultOfParents(t *testing.T) {
	for _, mode := range modes() {
		s := strayedStore(mode)
		for place, e := range s.Entries {
			for count := 1; count <= 6; count++ {
				at := (place + count) % count
				orphans := strays(count)
				orphans[at] = strayBehind(e, 9)
				wantClientFault(t, "an orphan whose parent is an entry", clientOf(s, orphans, 3, 0), impl.ErrState)
				orphans[at].Parent = flipped(e.Hash, 17*at)
				wantClientFault(t, "an orphan whose parent is nearly an entry", clientOf(s, orphans, 3, 0), impl.OK)
			}
			// What an entry is behind is none itself, nor is what else it has of 32 bytes.
			near := withChange(stray(9), func(h *impl.Header) { h.Parent = bytes.Clone(e.Header.Receipts) })
			wantClientFault(t, "an orphan behind Receipts", clientOf(s, []impl.Header{near}, 3, 0), impl.OK)
		}
		beginning := withChange(stray(9), func(h *impl.Header) { h.Parent = make([]byte, 32) })
		wantClientFault(t, "an orphan behind what the first one is behind", clientOf(s, []impl.Header{beginning}, 0), impl.OK)
	}
}

// orphanChange gives an orphan a fault, of one of the stages of such a one.
type orphanChange struct {
	stage  int
	code   int64
	change func(c *impl.Client, at int)
}

// orphanChanges are for a client of a known store, with six orphans.
func orphanChanges(at int) []orphanChange {
	var rows []orphanChange
	for _, row := range headerFaultChanges() {
		rows = append(rows, orphanChange{0, row.code, func(c *impl.Client, at int) { row.change(&c.Orphans[at]) }})
	}
	for ahead := range at {
		rows = append(rows, orphanChange{1, impl.ErrTaken, func(c *impl.Client, at int) { c.Orphans[at] = cloneHeader(c.Orphans[ahead]) }})
	}
	for _, place := range []int{0, 1, 5} {
		rows = append(rows,
			orphanChange{1, impl.ErrTaken, func(c *impl.Client, at int) { c.Orphans[at] = cloneHeader(c.Store.Entries[place].Header) }},
			orphanChange{2, impl.ErrState, func(c *impl.Client, at int) { c.Orphans[at].Parent = bytes.Clone(c.Store.Entries[place].Hash) }},
		)
	}
	return rows
}

// Two faults at once: the cache's ahead of ErrMany, and these ahead of those of each orphan.
func TestP16ClientFaultTheFirstCode(t *testing.T) {
	for _, mode := range modes() {
		s := knownStore(mode)
		base := clientOf(s, strays(6), 5, 4, 2, 0, 5, 1)
		caches := []orphanChange{
			{0, impl.ErrRange, func(c *impl.Client, _ int) { c.Store.Config.Period = 0 }},
			{0, impl.ErrForm, func(c *impl.Client, _ int) { c.Store.Entries[5].Header.Seal = fill(3) }},
			{0, impl.ErrRange, func(c *impl.Client, _ int) { c.Cache.Size = 6 }},
			{0, impl.ErrMany, func(c *impl.Client, _ int) { c.Cache.Size = 4 }},
			{0, impl.ErrTaken, func(c *impl.Client, _ int) { c.Cache.Kept[4].Place = 0 }},
			{0, impl.ErrState, func(c *impl.Client, _ int) { c.Cache.Kept[4].Snap.Number++ }},
		}
		many := orphanChange{0, impl.ErrMany, func(c *impl.Client, _ int) { c.Orphans = append(c.Orphans, stray(99)) }}
		wantClientFault(t, "no fault", base, impl.OK)
		for _, early := range caches {
			wantClientFault(t, "a cache, too many", withClient(base, func(c *impl.Client) { many.change(c, 0); early.change(c, 0) }), early.code)
		}
		for at := range 6 {
			for i, late := range orphanChanges(at) {
				wantClientCode(t, "one fault", withClient(base, func(c *impl.Client) { late.change(c, at) }), late.code)
				early := caches[(i+at)%len(caches)]
				wantClientCode(t, "a cache, an orphan", withClient(base, func(c *impl.Client) { late.change(c, at); early.change(c, 0) }), early.code)
				wantClientCode(t, "too many, an orphan", withClient(base, func(c *impl.Client) { late.change(c, at); many.change(c, 0) }), impl.ErrMany)
			}
		}
	}
}

// Of one orphan: its own fault ahead of its hash, that ahead of its parent.
func TestP16ClientFaultTheFirstCodeOfAnOrphan(t *testing.T) {
	for _, mode := range modes() {
		s := knownStore(mode)
		base := clientOf(s, strays(6), 2, 4)
		for at := range 6 {
			rows := orphanChanges(at)
			for _, b := range rows {
				for _, a := range rows {
					if a.stage == 0 && b.stage > 0 {
						both := withClient(base, func(c *impl.Client) { b.change(c, at) }, func(c *impl.Client) { a.change(c, at) })
						wantClientCode(t, "a fault of the header and another one", both, a.code)
					}
				}
			}
			// One that is there and has its parent there.
			for _, place := range []int{1, 5} {
				there := withClient(base, func(c *impl.Client) { c.Orphans[at] = cloneHeader(s.Entries[place].Header) })
				wantClientFault(t, "taken, a parent", there, impl.ErrTaken)
			}
			// One that waits already, and has its parent there: the one ahead is told for its parent, so it is that one's code.
			if at > 0 {
				twice := withClient(base, func(c *impl.Client) {
					c.Orphans[at-1] = strayBehind(s.Entries[2], 1)
					c.Orphans[at] = strayBehind(s.Entries[2], 1)
				})
				wantClientFault(t, "a parent, and then taken", twice, impl.ErrState)
			}
		}
	}
}

// Orphan by orphan: the first one's fault is told, whatever stage it is of.
func TestP16ClientFaultTheFirstOrphan(t *testing.T) {
	s := knownStore(impl.ModeTurns)
	base := clientOf(s, strays(6), 2, 4)
	for early := range 6 {
		for late := early + 1; late < 6; late++ {
			behind := orphanChanges(late)
			for i, a := range orphanChanges(early) {
				b := behind[(5*i+late)%len(behind)]
				both := withClient(base, func(c *impl.Client) { b.change(c, late) }, func(c *impl.Client) { a.change(c, early) })
				wantClientCode(t, "faults of two orphans", both, a.code)
			}
		}
	}
	parentFirst := withClient(base, func(c *impl.Client) { c.Orphans[0], c.Orphans[1] = strayBehind(s.Entries[0], 1), s.Entries[3].Header })
	wantClientFault(t, "a parent, and one behind it that is there", parentFirst, impl.ErrState)
	takenFirst := withClient(base, func(c *impl.Client) { c.Orphans[4], c.Orphans[5] = s.Entries[3].Header, impl.Header{} })
	wantClientFault(t, "one that is there, and one behind it with a fault", takenFirst, impl.ErrTaken)
}

// Long runs of clients with few faults, any of them: what is told is what the chapter says.
func TestP16ClientFaultAsTold(t *testing.T) {
	r := rand.New(rand.NewPCG(151, 1))
	told := map[int64]int{}
	for range 1500 {
		s := strayedStore(modes()[r.IntN(2)])
		c := clientOf(s, strays(6)[:1+r.IntN(6)], 2, int64(r.IntN(6)))
		for range r.IntN(3) {
			at := r.IntN(len(c.Orphans))
			rows := orphanChanges(at)
			rows[r.IntN(len(rows))].change(&c, at)
		}
		switch r.IntN(10) {
		case 0:
			c.Orphans = append(c.Orphans, strays(9)[6:]...)
		case 1:
			keptChanges(0)[r.IntN(len(keptChanges(0)))].change(&c.Cache, 0)
		}
		code := clientFaultAs(c)
		told[code]++
		if got := impl.ClientFault(c); got != code {
			t.Fatalf("ClientFault of %+v: %d, want %d", c, got, code)
		}
	}
	for _, code := range []int64{impl.OK, impl.ErrForm, impl.ErrMany, impl.ErrRange, impl.ErrTaken, impl.ErrState} {
		if told[code] < 30 {
			t.Errorf("the code %d was told %d times", code, told[code])
		}
	}
}

func TestP16NewClient(t *testing.T) {
	for _, mode := range modes() {
		for _, c := range []impl.Config{rare(mode), often(mode), {Mode: mode, Period: 1, Epoch: 1}, {Mode: mode, Period: 100, Epoch: 100}} {
			for n := 1; n <= 7; n++ {
				genesis := impl.GenesisOf(risingAddrs(n), fill(32)).Header
				for size := range int64(6) {
					got := impl.NewClient(c, genesis, size)
					wantClient(t, "NewClient", got, impl.ClientResult{Client: impl.Client{Store: firstAs(c, genesis), Cache: impl.Cache{Size: size}}})
					wantClientFault(t, "a new client", got.Client, impl.OK)
					wantHeader(t, "HeadIn a new client", impl.HeadIn(got.Client), impl.OK, genesis)
				}
			}
		}
	}
	for i, h := range manyHeaders(60) {
		if len(h.Signers) > 0 {
			size := int64(i) % 6
			want := impl.Client{Store: firstAs(rare(2), h), Cache: impl.Cache{Size: size}}
			wantClient(t, "NewClient of any header", impl.NewClient(rare(2), h, size), impl.ClientResult{Client: want})
		}
	}
}

// Each code of NewStore, alone and with a size that is none; and such sizes alone.
func TestP16NewClientTheFirstCode(t *testing.T) {
	good := impl.GenesisOf(risingAddrs(3), fill(32)).Header
	bare := withChange(good, func(h *impl.Header) { h.Signers = nil })
	wrongSizes := []int64{-1, impl.MaxKept + 1, math.MinInt64, math.MaxInt64, -2, 7, 24, 1 << 32, 1<<32 + 3}
	sizes := append([]int64{0, 1, impl.MaxKept}, wrongSizes...)
	for _, mode := range modes() {
		for _, size := range sizes {
			for _, change := range configChanges() {
				s := impl.Store{Config: rare(mode)}
				change(&s)
				for _, h := range []impl.Header{good, bare, {}} {
					wantClient(t, "NewClient with a setting that has a fault", impl.NewClient(s.Config, h, size), impl.ClientResult{Code: impl.ErrRange})
				}
			}
			for _, row := range headerFaultChanges() {
				for _, h := range []impl.Header{good, bare, fullHeader()} {
					got := impl.NewClient(rare(mode), withChange(h, row.change), size)
					wantClient(t, "NewClient of a header with a fault", got, impl.ClientResult{Code: row.code})
				}
			}
			for _, h := range []impl.Header{bare, bareHeader(), withChange(good, func(h *impl.Header) { h.Signers = [][]byte{} })} {
				wantClient(t, "NewClient of a header without Signers", impl.NewClient(rare(mode), h, size), impl.ClientResult{Code: impl.ErrNone})
			}
		}
		for _, size := range wrongSizes {
			wantClient(t, "NewClient of no size", impl.NewClient(rare(mode), good, size), impl.ClientResult{Code: impl.ErrRange})
		}
	}
}
