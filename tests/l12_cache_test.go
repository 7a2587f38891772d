package tests

import (
	"math"
	"math/rand/v2"
	"slices"
	"testing"

	"loop.example/g00383/impl"
)

// cloneCache is the same cache in other memory.
func cloneCache(k impl.Cache) impl.Cache {
	cloned := impl.Cache{Size: k.Size}
	for _, one := range k.Kept {
		cloned.Kept = append(cloned.Kept, impl.Kept{Place: one.Place, Snap: cloneSnap(one.Snap)})
	}
	return cloned
}

// withCache is a cache in other memory, behind some changes.
func withCache(k impl.Cache, changes ...func(k *impl.Cache)) impl.Cache {
	k = cloneCache(k)
	for _, change := range changes {
		change(&k)
	}
	return k
}

func equalKept(a impl.Kept, b impl.Kept) bool {
	return a.Place == b.Place && equalSnaps(a.Snap, b.Snap)
}

func equalCaches(a impl.Cache, b impl.Cache) bool {
	return a.Size == b.Size && slices.EqualFunc(a.Kept, b.Kept, equalKept)
}

func sameCacheResult(a impl.CacheResult, b impl.CacheResult) bool {
	return a.Code == b.Code && a.Hit == b.Hit && equalSnaps(a.Snap, b.Snap) && equalCaches(a.Cache, b.Cache)
}

func wantCache(t *testing.T, call string, got impl.CacheResult, want impl.CacheResult) {
	t.Helper()
	if !sameCacheResult(got, want) {
		t.Errorf("%s: %+v, want %+v", call, got, want)
	}
}

func wantHeld(t *testing.T, call string, s impl.Store, k impl.Cache, place int64, want bool) {
	t.Helper()
	if got := impl.HeldIn(s, k, place); got != want {
		t.Errorf("HeldIn of %s: %d: %v, want %v", call, place, got, want)
	}
}

// What the chapter says, reckoned a second time; nothing of it is asked of the program's cache or store.

func cacheFaultAs(s impl.Store, k impl.Cache) int64 {
	if code := storeFaultAs(s); code != impl.OK {
		return code
	}
	if k.Size < 0 || k.Size > 5 {
		return impl.ErrRange
	}
	if len(k.Kept) > int(k.Size) {
		return impl.ErrMany
	}
	seen := map[int64]bool{}
	for _, one := range k.Kept {
		if one.Place < 0 || one.Place >= int64(len(s.Entries)) {
			return impl.ErrRange
		}
		if seen[one.Place] {
			return impl.ErrTaken
		}
		seen[one.Place] = true
		if code, x := snapAtAs(s, int(one.Place)); code != impl.OK || !equalSnaps(x, one.Snap) {
			return impl.ErrState
		}
	}
	return impl.OK
}

// lookAs is for a cache without a fault.
func lookAs(s impl.Store, k impl.Cache, place int64) impl.CacheResult {
	if place < 0 || place >= int64(len(s.Entries)) {
		return impl.CacheResult{Code: impl.ErrRange}
	}
	code, x := snapAtAs(s, int(place))
	if code != impl.OK {
		return impl.CacheResult{Code: code}
	}
	then := withCache(k, func(k *impl.Cache) {
		k.Kept = slices.DeleteFunc(k.Kept, func(one impl.Kept) bool { return one.Place == place })
	})
	hit := len(then.Kept) < len(k.Kept)
	then.Kept = append(then.Kept, impl.Kept{Place: place, Snap: cloneSnap(x)})
	then.Kept = then.Kept[max(0, len(then.Kept)-int(k.Size)):]
	return impl.CacheResult{Snap: cloneSnap(x), Hit: hit, Cache: then}
}

// evictAs is for a cache without a fault too.
func evictAs(k impl.Cache, at int64) impl.CacheResult {
	if at < 0 || at >= int64(len(k.Kept)) {
		return impl.CacheResult{Code: impl.ErrRange}
	}
	left := cloneCache(k)
	return impl.CacheResult{Cache: impl.Cache{Size: k.Size, Kept: slices.Concat(left.Kept[:at], left.Kept[at+1:])}}
}

// cacheOf keeps the snapshots behind some places, in their order.
func cacheOf(s impl.Store, size int64, places ...int64) impl.Cache {
	k := impl.Cache{Size: size}
	for _, place := range places {
		_, x := snapAtAs(s, int(place))
		k.Kept = append(k.Kept, impl.Kept{Place: place, Snap: cloneSnap(x)})
	}
	return k
}

func keptPlaces(k impl.Cache) []int64 {
	var places []int64
	for _, one := range k.Kept {
		places = append(places, one.Place)
	}
	return places
}

// strayedStore is the known one, and two more entries, at 6 and 7, that may not follow: the first one is behind 4, the second one behind it.
func strayedStore(mode int64) impl.Store {
	s := knownStore(mode)
	s = putAs(s, 4, strayBehind(s.Entries[4], 1))
	return putAs(s, 6, strayBehind(s.Entries[6], 2))
}

// ordered are all lists of at most so many different places below count, in each order.
func ordered(count int64, most int) [][]int64 {
	lists := [][]int64{nil}
	for from := 0; from < len(lists); from++ {
		if len(lists[from]) == most {
			continue
		}
		for place := range count {
			if !slices.Contains(lists[from], place) {
				lists = append(lists, append(slices.Clone(lists[from]), place))
			}
		}
	}
	return lists
}

// someSizes are those a cache may have that keeps so many, and no others.
func someSizes(kept int) []int64 {
	var sizes []int64
	for size := int64(kept); size <= 5; size++ {
		sizes = append(sizes, size)
	}
	return sizes
}

// wantCacheCode: what CacheFault tells is the code, and that is what the chapter says.
func wantCacheCode(t *testing.T, call string, s impl.Store, k impl.Cache, code int64) {
	t.Helper()
	if told := cacheFaultAs(s, k); told != code {
		t.Fatalf("%s: by the chapter it is %d, the test wants %d: %+v", call, told, code, k)
	}
	if got := impl.CacheFault(s, k); got != code {
		t.Errorf("CacheFault of %s: %d, want %d: %+v", call, got, code, k)
	}
}

// wantCacheFault asks the others too: with a code they tell it alone.
func wantCacheFault(t *testing.T, call string, s impl.Store, k impl.Cache, code int64) {
	t.Helper()
	wantCacheCode(t, call, s, k, code)
	if code == impl.OK {
		return
	}
	places := []int64{-1, 0, int64(len(s.Entries))}
	if len(k.Kept) > 0 {
		places = append(places, k.Kept[0].Place, k.Kept[len(k.Kept)-1].Place)
	}
	for _, place := range places {
		wantCache(t, "LookSnap of "+call, impl.LookSnap(s, k, place), impl.CacheResult{Code: code})
		wantHeld(t, call, s, k, place, false)
	}
	for _, at := range []int64{-1, 0, int64(len(k.Kept))} {
		wantCache(t, "EvictKept of "+call, impl.EvictKept(s, k, at), impl.CacheResult{Code: code})
	}
}

func TestP13Constants(t *testing.T) {
	if impl.MaxKept != 5 {
		t.Error("a constant is another one")
	}
}

func TestP13NewCache(t *testing.T) {
	for size := range int64(6) {
		got := impl.NewCache(size)
		wantCache(t, "NewCache", got, impl.CacheResult{Cache: impl.Cache{Size: size}})
		for _, mode := range modes() {
			wantCacheFault(t, "a new cache", strayedStore(mode), got.Cache, impl.OK)
		}
	}
	for _, size := range []int64{-1, 6, -2, 7, 24, 1 << 32, 1<<32 + 3, math.MaxInt64, math.MinInt64} {
		wantCache(t, "NewCache of no size", impl.NewCache(size), impl.CacheResult{Code: impl.ErrRange})
	}
}

func TestP13CacheFaultOfWhatIsRight(t *testing.T) {
	for _, mode := range modes() {
		s := strayedStore(mode)
		for _, places := range ordered(6, 3) {
			for _, size := range someSizes(len(places)) {
				wantCacheFault(t, "a cache", s, cacheOf(s, size, places...), impl.OK)
			}
		}
	}
	r := rand.New(rand.NewPCG(121, 1))
	for _, g := range append(someGroves(t, 23), someGroves(t, 4)...) {
		k := impl.Cache{Size: 5}
		for _, place := range r.Perm(len(g.store.Entries))[:5] {
			k.Kept = append(k.Kept, impl.Kept{Place: int64(place), Snap: g.snaps[place]})
		}
		wantCacheFault(t, "five of many", g.store, k, impl.OK)
	}
}

// A store with a fault of each code is told ahead of all else, whatever the cache is.
func TestP13CacheFaultOfAStoreWithAFault(t *testing.T) {
	told := map[int64]int{}
	want := func(s impl.Store, caches []impl.Cache, code int64) {
		for _, k := range caches {
			wantCacheFault(t, "a store with a fault", s, k, code)
		}
		told[code]++
	}
	for _, s := range append(faultyGrounds(t)[:3], knownStore(2)) {
		x := impl.Snap{Number: s.Entries[0].Header.Number, Signers: s.Entries[0].Header.Signers}
		first := impl.Kept{Snap: x}
		caches := []impl.Cache{
			{}, {Size: 2, Kept: []impl.Kept{first}},
			{Size: -1}, {Size: 6, Kept: []impl.Kept{first}}, {Size: 0, Kept: []impl.Kept{first}}, {Size: 2, Kept: []impl.Kept{{Place: -1}}},
			{Size: 2, Kept: []impl.Kept{first, first}}, {Size: 1, Kept: []impl.Kept{{Place: 0}}}, {Size: 1, Kept: []impl.Kept{{Place: 24, Snap: x}}},
		}
		for _, k := range caches[:2] {
			wantCacheFault(t, "a store without a fault", s, k, impl.OK)
		}
		for _, change := range configChanges() {
			want(withStore(s, change), caches, impl.ErrRange)
		}
		for _, at := range []int{0, len(s.Entries) - 1} {
			for i, row := range entryChanges(s, at) {
				if i%4 == 0 || row.stage > 3 {
					want(faultAt(s, at, row), caches, row.code)
				}
			}
		}
		want(impl.Store{Config: s.Config}, caches, impl.ErrMany)
		want(looseStore(s.Config, someHeader(), someUps(1, 24)...), caches, impl.ErrMany)
		bare := withChange(someHeader(), func(h *impl.Header) { h.Signers = nil })
		want(looseStore(s.Config, bare, 0, 1), caches, impl.ErrNone)
	}
	for _, code := range []int64{impl.ErrForm, impl.ErrMany, impl.ErrRange, impl.ErrNone, impl.ErrTaken, impl.ErrSign, impl.ErrState} {
		if told[code] < 3 {
			t.Errorf("the code %d was told %d times", code, told[code])
		}
	}
}

// noSizes are none of a cache.
func noSizes() []int64 {
	return []int64{-1, 6, -2, 7, 24, 1 << 32, 1<<32 + 5, math.MaxInt64, math.MinInt64}
}

func TestP13CacheFaultOfSizes(t *testing.T) {
	for _, mode := range modes() {
		s := knownStore(mode)
		for _, size := range noSizes() {
			for _, places := range [][]int64{nil, {0}, {4, 1}, {4, 2, 0, 5, 1}, {0, 1, 2, 3, 4, 5}} {
				wantCacheFault(t, "no size", s, cacheOf(s, size, places...), impl.ErrRange)
			}
		}
		for size := range int64(6) {
			wantCacheFault(t, "none that are kept", s, impl.Cache{Size: size}, impl.OK)
			wantCacheFault(t, "none that are kept, not nil", s, impl.Cache{Size: size, Kept: []impl.Kept{}}, impl.OK)
		}
	}
}

// As many as Size, fewer, one more, and many more.
func TestP13CacheFaultOfCounts(t *testing.T) {
	for _, mode := range modes() {
		s := knownStore(mode)
		all := cacheOf(s, 0, 4, 2, 0, 5, 1, 3).Kept
		for size := range int64(6) {
			for count := range len(all) + 1 {
				code := int64(impl.OK)
				if count > int(size) {
					code = impl.ErrMany
				}
				wantCacheFault(t, "some that are kept", s, impl.Cache{Size: size, Kept: all[:count]}, code)
			}
			// Those that are too many may have what faults they like.
			wantCacheFault(t, "many that are nothing", s, impl.Cache{Size: size, Kept: make([]impl.Kept, size+1)}, impl.ErrMany)
			wantCacheFault(t, "very many", s, impl.Cache{Size: size, Kept: make([]impl.Kept, 1<<12)}, impl.ErrMany)
		}
	}
}

func TestP13CacheFaultOfPlaces(t *testing.T) {
	for _, mode := range modes() {
		s := knownStore(mode)
		for place := range int64(6) {
			wantCacheFault(t, "each place", s, cacheOf(s, 1, place), impl.OK)
		}
		for _, none := range noPlaces(6) {
			for at := range 5 {
				k := withCache(cacheOf(s, 5, 4, 2, 0, 5, 1), func(k *impl.Cache) { k.Kept[at].Place = none })
				wantCacheFault(t, "no place", s, k, impl.ErrRange)
			}
			wantCacheFault(t, "no place and no snapshot", s, impl.Cache{Size: 1, Kept: []impl.Kept{{Place: none}}}, impl.ErrRange)
		}
	}
	// The last place of stores with one entry and with 24.
	for _, g := range append(someGroves(t, 0)[:2], someGroves(t, 23)...) {
		last := int64(len(g.store.Entries)) - 1
		x := g.snaps[last]
		wantCacheFault(t, "the last place", g.store, impl.Cache{Size: 1, Kept: []impl.Kept{{Place: last, Snap: x}}}, impl.OK)
		wantCacheFault(t, "one behind it", g.store, impl.Cache{Size: 1, Kept: []impl.Kept{{Place: last + 1, Snap: x}}}, impl.ErrRange)
		wantCacheFault(t, "one ahead of all", g.store, impl.Cache{Size: 1, Kept: []impl.Kept{{Place: -1, Snap: g.snaps[0]}}}, impl.ErrRange)
	}
}

// Side by side, with others between, and more than twice.
func TestP13CacheFaultOfPlacesThatAreKeptTwice(t *testing.T) {
	for _, mode := range modes() {
		s := strayedStore(mode)
		for _, places := range [][]int64{
			{0, 0}, {4, 4}, {2, 2, 1}, {1, 2, 2}, {2, 1, 2}, {0, 1, 2, 0}, {4, 3, 2, 1, 4}, {3, 4, 4, 1, 0}, {5, 4, 3, 2, 2}, {1, 2, 3, 4, 2}, {2, 2, 2}, {0, 1, 0, 1}, {0, 0, 0, 0, 0},
		} {
			for _, size := range someSizes(len(places)) {
				wantCacheFault(t, "one that is kept twice", s, cacheOf(s, size, places...), impl.ErrTaken)
			}
			if last := len(places) - 1; slices.Contains(places[:last], places[last]) {
				other := withCache(cacheOf(s, 5, places...), func(k *impl.Cache) { k.Kept[last].Snap = impl.Snap{} })
				wantCacheFault(t, "one that is kept twice, with another snapshot", s, other, impl.ErrTaken)
			}
		}
	}
}

// Two entries behind one, by one signer, that say nothing: their snapshots are the same, but they are not at one place.
func twinStore(t *testing.T, mode int64) impl.Store {
	t.Helper()
	g := planted(impl.Config{Mode: mode, Period: 1, Epoch: 50}, impl.GenesisOf(risingAddrs(3), fill(32)).Header)
	for at := range 3 {
		signed := g.draft(0, g.free(0)[1]).with(func(d *draft) { d.next.Time += int64(at) })
		g = g.grown(t, 0, signed.finished().next)
	}
	if !equalSnaps(g.snaps[1], g.snaps[2]) || !equalSnaps(g.snaps[2], g.snaps[3]) {
		t.Fatal("they are not the same")
	}
	return g.store
}

func TestP13CacheFaultOfTheSameSnapshotAtOtherPlaces(t *testing.T) {
	for _, mode := range modes() {
		s := twinStore(t, mode)
		for _, places := range [][]int64{{1, 2}, {2, 1, 3}, {0, 3, 2, 1}} {
			wantCacheFault(t, "the same snapshot at other places", s, cacheOf(s, 5, places...), impl.OK)
		}
		wantCacheFault(t, "the same snapshot at one place", s, cacheOf(s, 5, 3, 1, 3), impl.ErrTaken)
	}
}

// The snapshot of another place, or of none, and one that differs in one field.
func TestP13CacheFaultOfSnapshots(t *testing.T) {
	for _, mode := range modes() {
		s := knownStore(mode)
		base := cacheOf(s, 5, 4, 2, 0, 5, 1)
		for name, change := range snapFieldChanges() {
			for _, k := range []impl.Cache{base, cacheOf(s, 2, 0, 2), cacheOf(s, 1, 2), cacheOf(s, 4, 2, 1)} {
				at := slices.Index(keptPlaces(k), 2)
				wantCacheFault(t, "another "+name, s, withCache(k, func(k *impl.Cache) { change(&k.Kept[at].Snap) }), impl.ErrState)
			}
		}
		more := []func(x *impl.Snap){
			func(x *impl.Snap) { *x = impl.Snap{} },
			func(x *impl.Snap) { x.Number++ },
			func(x *impl.Snap) { x.Signers = append(x.Signers, addr(0x9999)) },
			func(x *impl.Snap) { x.Recents = append(x.Recents, impl.Recent{Number: x.Number, Signer: x.Signers[0]}) },
			func(x *impl.Snap) { x.Votes = append(x.Votes, voteOf(x.Signers[0], outsider(3), true)) },
			func(x *impl.Snap) { *x = fullSnap() },
			func(x *impl.Snap) { x.Signers[0] = append(x.Signers[0], 0) },
			func(x *impl.Snap) { x.Signers[0] = nil },
		}
		for at := range base.Kept {
			for _, change := range more {
				wantCacheFault(t, "another snapshot", s, withCache(base, func(k *impl.Cache) { change(&k.Kept[at].Snap) }), impl.ErrState)
			}
			for place := range int64(6) {
				other := withCache(base, func(k *impl.Cache) { k.Kept[at].Snap = cacheOf(s, 1, place).Kept[0].Snap })
				code := int64(impl.ErrState)
				if place == base.Kept[at].Place {
					code = impl.OK
				}
				wantCacheFault(t, "the snapshot of another place", s, other, code)
			}
		}
	}
}

// What has no snapshot can not be kept, whatever is said of it.
func TestP13CacheFaultOfWhatMayNotFollow(t *testing.T) {
	for _, mode := range modes() {
		s := strayedStore(mode)
		snaps := cacheOf(s, 5, 0, 1, 2, 4, 5).Kept
		snaps = append(snaps, impl.Kept{}, impl.Kept{Snap: withSnap(snaps[3].Snap, func(x *impl.Snap) { x.Number++ })})
		for _, place := range []int64{6, 7} {
			if code, _ := snapAtAs(s, int(place)); code == impl.OK {
				t.Fatalf("%d may follow", place)
			}
			for _, one := range snaps {
				kept := impl.Kept{Place: place, Snap: one.Snap}
				wantCacheFault(t, "what may not follow", s, impl.Cache{Size: 1, Kept: []impl.Kept{kept}}, impl.ErrState)
				behind := withCache(cacheOf(s, 5, 3, 4), func(k *impl.Cache) { k.Kept = append(k.Kept, kept) })
				wantCacheFault(t, "what may not follow behind others", s, behind, impl.ErrState)
			}
		}
	}
	for _, s := range looseStores(6) {
		wantCacheFault(t, "the first entry", s, cacheOf(s, 2, 0), impl.OK)
		for place := int64(1); place < 7; place++ {
			wantCacheFault(t, "what may not follow the first entry", s, cacheOf(s, 2, 0, place), impl.ErrState)
		}
	}
}

// keptChange gives one that is kept a fault, of one of the stages of such a one.
type keptChange struct {
	stage  int
	code   int64
	change func(k *impl.Cache, at int)
}

// keptChanges are for a cache that keeps 4, 2, 0, 5 and 1 of a strayed store; the first one has none ahead of it.
func keptChanges(at int) []keptChange {
	var rows []keptChange
	for _, none := range noPlaces(8) {
		rows = append(rows, keptChange{0, impl.ErrRange, func(k *impl.Cache, at int) { k.Kept[at].Place = none }})
	}
	for ahead := range at {
		rows = append(rows,
			keptChange{1, impl.ErrTaken, func(k *impl.Cache, at int) { k.Kept[at].Place = k.Kept[ahead].Place }},
			keptChange{1, impl.ErrTaken, func(k *impl.Cache, at int) {
				k.Kept[at] = impl.Kept{Place: k.Kept[ahead].Place, Snap: cloneSnap(k.Kept[ahead].Snap)}
			}},
		)
	}
	for _, place := range []int64{3, 6, 7} {
		rows = append(rows, keptChange{2, impl.ErrState, func(k *impl.Cache, at int) { k.Kept[at].Place = place }})
	}
	return append(rows,
		keptChange{2, impl.ErrState, func(k *impl.Cache, at int) { k.Kept[at].Snap.Number++ }},
		keptChange{2, impl.ErrState, func(k *impl.Cache, at int) { k.Kept[at].Snap = impl.Snap{} }},
		keptChange{2, impl.ErrState, func(k *impl.Cache, at int) { k.Kept[at].Snap.Signers = k.Kept[at].Snap.Signers[1:] }},
	)
}

// cacheChanges give it what is asked ahead of those that are kept: a Size that is none, and then one that is too small.
func cacheChanges() []struct {
	code   int64
	change func(k *impl.Cache)
} {
	type row = struct {
		code   int64
		change func(k *impl.Cache)
	}
	var rows []row
	for _, size := range noSizes() {
		rows = append(rows, row{impl.ErrRange, func(k *impl.Cache) { k.Size = size }})
	}
	for size := range int64(5) {
		rows = append(rows, row{impl.ErrMany, func(k *impl.Cache) { k.Size = size }})
	}
	return append(rows, row{impl.ErrMany, func(k *impl.Cache) { k.Kept = append(k.Kept, impl.Kept{Place: 3}) }})
}

// Two faults at once: the Size's ahead of ErrMany, and these ahead of those of each that is kept.
func TestP13CacheFaultTheFirstCode(t *testing.T) {
	for _, mode := range modes() {
		s := strayedStore(mode)
		base := cacheOf(s, 5, 4, 2, 0, 5, 1)
		for i, early := range cacheChanges() {
			wantCacheFault(t, "one fault", s, withCache(base, early.change), early.code)
			for at := range base.Kept {
				for _, late := range keptChanges(at) {
					both := withCache(base, func(k *impl.Cache) { late.change(k, at) }, early.change)
					wantCacheCode(t, "a fault and one of what is kept", s, both, early.code)
				}
			}
			for _, late := range cacheChanges()[i+1:] {
				if early.code == impl.ErrRange && late.code == impl.ErrMany {
					both := withCache(base, late.change, early.change)
					wantCacheCode(t, "a Size and too many", s, both, impl.ErrRange)
				}
			}
		}
	}
}

// Of one that is kept: no place ahead of one that is taken, that ahead of another snapshot.
func TestP13CacheFaultTheFirstCodeOfOneThatIsKept(t *testing.T) {
	for _, mode := range modes() {
		s := strayedStore(mode)
		base := cacheOf(s, 5, 4, 2, 0, 5, 1)
		for at := range base.Kept {
			for i, a := range keptChanges(at) {
				wantCacheFault(t, "one fault", s, withCache(base, func(k *impl.Cache) { a.change(k, at) }), a.code)
				for _, b := range keptChanges(at)[i+1:] {
					if a.stage == b.stage {
						continue
					}
					both := withCache(base, func(k *impl.Cache) { b.change(k, at) }, func(k *impl.Cache) { a.change(k, at) })
					wantCacheCode(t, "two faults of one", s, both, a.code)
				}
			}
		}
		// Two that are no places, and alike.
		for _, none := range noPlaces(8) {
			k := impl.Cache{Size: 3, Kept: []impl.Kept{{Place: none}, {Place: none}}}
			wantCacheFault(t, "no place twice", s, k, impl.ErrRange)
		}
	}
}

// Of two that are kept the first one's fault is told, whatever stage it is of.
func TestP13CacheFaultTheFirstThatIsKept(t *testing.T) {
	for _, mode := range modes() {
		s := strayedStore(mode)
		base := cacheOf(s, 5, 4, 2, 0, 5, 1)
		for early := range base.Kept {
			for late := early + 1; late < len(base.Kept); late++ {
				behind := keptChanges(late)
				for i, a := range keptChanges(early) {
					for _, b := range []keptChange{behind[i%len(behind)], behind[(5*i+3)%len(behind)]} {
						both := withCache(base, func(k *impl.Cache) { b.change(k, late) }, func(k *impl.Cache) { a.change(k, early) })
						wantCacheCode(t, "faults of two", s, both, a.code)
					}
				}
			}
		}
		// One that is not right yet and is kept again: its own fault is told, not that it is taken.
		k := withCache(cacheOf(s, 5, 2, 2), func(k *impl.Cache) { k.Kept[0].Snap.Votes = nil })
		wantCacheFault(t, "another snapshot and then the same place", s, k, impl.ErrState)
		wantCacheFault(t, "what may not follow, twice", s, cacheOf(s, 5, 6, 6), impl.ErrState)
	}
}

// Long runs of caches with few faults, any of them: what is told is what the chapter says.
func TestP13CacheFaultAsTold(t *testing.T) {
	r := rand.New(rand.NewPCG(122, 1))
	told := map[int64]int{}
	for range 1500 {
		s := strayedStore(modes()[r.IntN(2)])
		k := cacheOf(s, 5, 4, 2, 0, 5, 1)
		r.Shuffle(5, func(i, j int) { k.Kept[i], k.Kept[j] = k.Kept[j], k.Kept[i] })
		for range r.IntN(3) {
			at := r.IntN(len(k.Kept))
			rows := keptChanges(at)
			if row := rows[r.IntN(len(rows))]; len(k.Kept[at].Snap.Signers) > 0 {
				row.change(&k, at)
			}
		}
		if r.IntN(8) == 0 {
			rows := cacheChanges()
			rows[r.IntN(len(rows))].change(&k)
		}
		code := cacheFaultAs(s, k)
		told[code]++
		if got := impl.CacheFault(s, k); got != code {
			t.Fatalf("CacheFault of %+v: %d, want %d", k, got, code)
		}
	}
	for _, code := range []int64{impl.OK, impl.ErrMany, impl.ErrRange, impl.ErrTaken, impl.ErrState} {
		if told[code] < 50 {
			t.Errorf("the code %d was told %d times", code, told[code])
		}
	}
}

func TestP13HeldIn(t *testing.T) {
	for _, mode := range modes() {
		s := strayedStore(mode)
		for _, places := range append(ordered(6, 2), []int64{3, 1, 4, 0}, []int64{5, 0, 4, 1, 3}, []int64{1, 2, 3, 4, 5}) {
			for _, size := range []int64{int64(len(places)), 5} {
				k := cacheOf(s, size, places...)
				for _, place := range append(noPlaces(8), 0, 1, 2, 3, 4, 5, 6, 7, size) {
					wantHeld(t, "some that are kept", s, k, place, slices.Contains(places, place))
				}
			}
		}
	}
}

// Where a cache has a fault nothing is held in it, though it be there.
func TestP13HeldInACacheWithAFault(t *testing.T) {
	for _, mode := range modes() {
		s := strayedStore(mode)
		base := cacheOf(s, 5, 4, 2, 0, 5, 1)
		faulty := []impl.Cache{cacheOf(s, 3, 1, 2, 1), cacheOf(s, 2, 0, 1, 2), cacheOf(s, -1, 0), cacheOf(s, 6, 0), cacheOf(s, 2, 0, 7)}
		for _, row := range keptChanges(4) {
			faulty = append(faulty, withCache(base, func(k *impl.Cache) { row.change(k, 4) }))
		}
		for _, k := range faulty {
			for place := int64(-1); place <= 8; place++ {
				wantHeld(t, "a cache with a fault", s, k, place, false)
			}
		}
		for _, change := range configChanges() {
			wantHeld(t, "a store with a fault", withStore(s, change), base, 4, false)
		}
	}
}
