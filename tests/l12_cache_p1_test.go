package tests

import (
	"bytes"
	"math"
	"reflect"
	"slices"
	"testing"

	"loop.example/g00383/impl"
)

// holding is a store and a cache of it.
type holding struct {
	store impl.Store
	cache impl.Cache
}

// cacheArguments are of every kind that chapter 12 tells apart, with and without a fault.
func cacheArguments(t *testing.T) []holding {
	t.Helper()
	var list []holding
	for i, s := range storeArguments(t) {
		if i > 12 && i%2 > 0 {
			continue // many of them have a fault of the same kind
		}
		first := impl.Kept{}
		if len(s.Entries) > 0 {
			first.Snap = impl.Snap{Number: s.Entries[0].Header.Number, Signers: s.Entries[0].Header.Signers}
		}
		list = append(list, holding{s, impl.Cache{Size: int64(i % 7), Kept: slices.Repeat([]impl.Kept{first}, i%3)}})
	}
	for _, mode := range modes() {
		s := strayedStore(mode)
		base := cacheOf(s, 5, 4, 2, 0, 5, 1)
		for size := range int64(6) {
			list = append(list, holding{s, impl.Cache{Size: size}}, holding{s, impl.Cache{Size: size, Kept: base.Kept[:size]}})
		}
		for i, x := range snapArguments() {
			list = append(list, holding{s, impl.Cache{Size: 1 + int64(i)%5, Kept: []impl.Kept{{Place: int64(i % 8), Snap: x}}}})
		}
		for _, row := range cacheChanges() {
			list = append(list, holding{s, withCache(base, row.change)})
		}
		for at := range base.Kept {
			for i, row := range keptChanges(at) {
				if (i+at)%3 == 0 {
					list = append(list, holding{s, withCache(base, func(k *impl.Cache) { row.change(k, at) })})
				}
			}
		}
		list = append(list, holding{s, impl.Cache{Size: 5, Kept: make([]impl.Kept, 1<<12)}}, holding{impl.Store{}, base}, holding{twinStore(t, mode), base})
	}
	for _, g := range append(someGroves(t, 5), someGroves(t, 23)[:4]...) {
		list = append(list, holding{g.store, impl.Cache{Size: 4, Kept: []impl.Kept{{Place: 5, Snap: g.snaps[5]}, {Place: 1, Snap: g.snaps[1]}}}})
	}
	return list
}

func (w holding) places() []int64 {
	last := int64(len(w.store.Entries)) - 1
	places := []int64{math.MinInt64, -1, 0, last / 2, last, last + 1, math.MaxInt64}
	if len(w.cache.Kept) > 0 {
		places = append(places, w.cache.Kept[0].Place)
	}
	return places
}

func (w holding) numbers() []int64 {
	last := int64(len(w.cache.Kept)) - 1
	return []int64{math.MinInt64, -1, 0, last / 2, last, last + 1, math.MaxInt64}
}

func sizeArguments() []int64 {
	return []int64{math.MinInt64, -1, 0, 1, 2, 3, 4, 5, 6, 7, math.MaxInt64}
}

type cacheAnswers struct {
	Fault   int64
	New     []impl.CacheResult
	Looked  []impl.CacheResult
	Evicted []impl.CacheResult
	Held    []bool
}

// askCache calls each function of chapter 12 with a store and a cache.
func askCache(w holding) cacheAnswers {
	all := cacheAnswers{Fault: impl.CacheFault(w.store, w.cache)}
	for _, size := range append(sizeArguments(), w.cache.Size) {
		all.New = append(all.New, impl.NewCache(size))
	}
	for _, place := range w.places() {
		all.Looked = append(all.Looked, impl.LookSnap(w.store, w.cache, place))
		all.Held = append(all.Held, impl.HeldIn(w.store, w.cache, place))
	}
	for _, at := range w.numbers() {
		all.Evicted = append(all.Evicted, impl.EvictKept(w.store, w.cache, at))
	}
	return all
}

// sameCacheAnswers holds them against each other; nil and empty are the same.
func sameCacheAnswers(a cacheAnswers, b cacheAnswers) bool {
	same := slices.EqualFunc(a.New, b.New, sameCacheResult) && slices.EqualFunc(a.Looked, b.Looked, sameCacheResult)
	return a.Fault == b.Fault && same && slices.EqualFunc(a.Evicted, b.Evicted, sameCacheResult) && slices.Equal(a.Held, b.Held)
}

// wantCacheOr: a cache without a fault, with the snapshot that is told, or nothing beside one of the codes.
func wantCacheOr(t *testing.T, call string, at int, s impl.Store, r impl.CacheResult, codes ...int64) {
	t.Helper()
	nothing := impl.CacheResult{Code: r.Code}
	if r.Code == impl.OK && impl.CacheFault(s, r.Cache) != impl.OK || r.Code != impl.OK && (!slices.Contains(codes, r.Code) || !reflect.DeepEqual(r, nothing)) {
		t.Errorf("%s at %d: %+v", call, at, r)
	}
}

func TestP1CacheAnswersAtEveryArgument(t *testing.T) {
	rules := []int64{impl.ErrRule, impl.ErrSign, impl.ErrForm, impl.ErrTaken}
	told := map[int64]bool{}
	for i, w := range cacheArguments(t) {
		all := askCache(w)
		told[all.Fault] = true
		if code := cacheFaultAs(w.store, w.cache); all.Fault != code {
			t.Errorf("CacheFault at %d: %d, want %d", i, all.Fault, code)
		}
		for _, r := range all.New {
			wantCacheOr(t, "NewCache", i, knownStore(1), r, impl.ErrRange)
		}
		codes := []int64{all.Fault}
		if all.Fault == impl.OK {
			codes = append(rules, impl.ErrRange)
		}
		for _, r := range all.Looked {
			wantCacheOr(t, "LookSnap", i, w.store, r, codes...)
			if r.Code == impl.OK && impl.SnapFault(r.Snap) != impl.OK {
				t.Errorf("LookSnap at %d: %+v", i, r)
			}
		}
		for _, r := range all.Evicted {
			wantCacheOr(t, "EvictKept", i, w.store, r, codes...)
			if r.Hit || !equalSnaps(r.Snap, impl.Snap{}) {
				t.Errorf("EvictKept at %d: %+v", i, r)
			}
		}
		if all.Fault != impl.OK && slices.Contains(all.Held, true) {
			t.Errorf("HeldIn at %d: true beside a fault", i)
		}
	}
	for _, code := range []int64{impl.OK, impl.ErrForm, impl.ErrMany, impl.ErrRange, impl.ErrNone, impl.ErrTaken, impl.ErrSign, impl.ErrState} {
		if !told[code] {
			t.Errorf("the code %d is never told", code)
		}
	}
}

func roomyKept(kept []impl.Kept) []impl.Kept {
	var roomy []impl.Kept
	for _, one := range kept {
		roomy = append(roomy, impl.Kept{Place: one.Place, Snap: roomySnap(one.Snap)})
	}
	return withRoom(roomy, impl.Kept{Place: 3, Snap: someSnap()})
}

// roomy is the same, in memory with more room than it shows.
func (w holding) roomy() holding {
	return holding{roomyStore(w.store), impl.Cache{Size: w.cache.Size, Kept: roomyKept(w.cache.Kept)}}
}

func (w holding) cloned() holding {
	return holding{cloneStore(w.store), cloneCache(w.cache)}
}

// emptied has what is empty for what is nil.
func (w holding) emptied() holding {
	k := impl.Cache{Size: w.cache.Size, Kept: []impl.Kept{}}
	for _, one := range cloneCache(w.cache).Kept {
		one.Snap.Signers = append([][]byte{}, one.Snap.Signers...)
		one.Snap.Recents = append([]impl.Recent{}, one.Snap.Recents...)
		one.Snap.Votes = append([]impl.Vote{}, one.Snap.Votes...)
		k.Kept = append(k.Kept, one)
	}
	return holding{emptiedStore(w.store), k}
}

// wholeCache copies all that a cache may reach, the room behind it too.
func wholeCache(k impl.Cache) impl.Cache {
	whole := impl.Cache{Size: k.Size}
	for _, one := range k.Kept[:cap(k.Kept)] {
		whole.Kept = append(whole.Kept, impl.Kept{Place: one.Place, Snap: wholeSnap(one.Snap)})
	}
	return whole
}

func (w holding) whole() holding {
	return holding{wholeStore(w.store), wholeCache(w.cache)}
}

// smallHoldings are the arguments without the longest ones.
func smallHoldings(t *testing.T) []holding {
	t.Helper()
	return slices.DeleteFunc(cacheArguments(t), func(w holding) bool {
		long := func(one impl.Kept) bool { return len(one.Snap.Votes) > 1000 }
		return len(w.cache.Kept) > 1000 || slices.ContainsFunc(w.cache.Kept, long)
	})
}

func TestP1CacheHangsOnTheArgumentsAlone(t *testing.T) {
	for i, w := range smallHoldings(t) {
		first := askCache(w)
		if !reflect.DeepEqual(first, askCache(w)) {
			t.Errorf("the cache at %d is answered otherwise another time", i)
		}
		for call, other := range map[string]holding{"in other memory": w.cloned(), "with room behind it": w.roomy(), "with what is empty, not nil": w.emptied()} {
			if !sameCacheAnswers(first, askCache(other)) {
				t.Errorf("the cache at %d is answered otherwise %s", i, call)
			}
		}
	}
}

// Asked in other company each is answered the same: nothing is kept but in the cache that is told.
func TestP1CacheAnswersTheSameBehindOthers(t *testing.T) {
	s := strayedStore(impl.ModeTurns)
	w := holding{s, cacheOf(s, 3, 4, 0, 2)}
	first, none := askCache(w), askCache(holding{s, impl.Cache{Size: 2}})
	for i, other := range cacheArguments(t) {
		askCache(other)
		if i%6 == 0 && (!sameCacheAnswers(first, askCache(w)) || !sameCacheAnswers(none, askCache(holding{s, impl.Cache{Size: 2}}))) {
			t.Errorf("behind the cache at %d another one is answered otherwise", i)
		}
	}
	for range 3 {
		got := impl.LookSnap(s, impl.Cache{Size: 2}, 4)
		wantCache(t, "LookSnap of a cache that was not told", got, lookAs(s, impl.Cache{Size: 2}, 4))
	}
}

func TestP1CacheAnswersSideBySide(t *testing.T) {
	wantSideBySide(t, 10, func(i int) func() bool {
		g := groveOf(t, uint64(300+i), modes()[i%2], someUps(uint64(i), 7+i)...)
		last := int64(len(g.store.Entries)) - 1
		k := cacheOf(g.store, 3, last, 1, 0)
		hit, miss, gone := lookAs(g.store, k, last), lookAs(g.store, k, 3), evictAs(k, int64(i%3))
		return func() bool {
			same := impl.CacheFault(g.store, k) == impl.OK && impl.HeldIn(g.store, k, last) && !impl.HeldIn(g.store, k, 3)
			same = same && sameCacheResult(impl.LookSnap(g.store, k, last), hit) && sameCacheResult(impl.LookSnap(g.store, k, 3), miss)
			same = same && sameCacheResult(impl.EvictKept(g.store, k, int64(i%3)), gone)
			return same && sameCacheResult(impl.NewCache(int64(i)%6), impl.CacheResult{Cache: impl.Cache{Size: int64(i) % 6}})
		}
	})
}

// Neither the store nor the cache nor what is kept in it is changed, nor what is behind them.
func TestP1CacheChangesNoArgument(t *testing.T) {
	for i, w := range smallHoldings(t) {
		shown := w.roomy()
		before := shown.whole()
		askCache(shown)
		if after := shown.whole(); !reflect.DeepEqual(after.store, before.store) || !reflect.DeepEqual(after.cache, before.cache) {
			t.Errorf("what is told at %d, or what is behind it, was changed", i)
		}
	}
}

func spoilCache(k impl.Cache) {
	for _, one := range k.Kept {
		spoilSnap(one.Snap)
	}
	spoil(k.Kept, impl.Kept{Place: 77})
}

// snapsOf are all snapshots of an answer: its own, and those that are kept.
func snapsOf(r impl.CacheResult) []impl.Snap {
	snaps := []impl.Snap{r.Snap}
	for _, one := range r.Cache.Kept {
		snaps = append(snaps, one.Snap)
	}
	return snaps
}

// wantCachesApart: what was told is changed, the room behind all of it too; neither another answer nor another part of it is.
func wantCachesApart(t *testing.T, call string, ask func() impl.CacheResult, want impl.CacheResult) {
	t.Helper()
	one, two := ask(), ask()
	spoilSnap(one.Snap)
	wantCache(t, call+", its snapshot changed", impl.CacheResult{Code: one.Code, Snap: want.Snap, Hit: one.Hit, Cache: one.Cache}, want)
	spoilCache(one.Cache)
	wantCache(t, call+" beside a changed answer", two, want)
	spoilCache(two.Cache)
	if !equalSnaps(two.Snap, want.Snap) {
		t.Errorf("%s: the snapshot is changed with the cache: %+v", call, two.Snap)
	}
	wantCache(t, call+" behind a changed answer", ask(), want)
	wantSnapsOfOneApart(t, call, ask(), want)
	wantBytesOfOneApart(t, call, ask())
}

// wantSnapsOfOneApart: of one answer each snapshot is changed, lists and all, and those behind it are not.
func wantSnapsOfOneApart(t *testing.T, call string, got impl.CacheResult, want impl.CacheResult) {
	t.Helper()
	snaps, right := snapsOf(got), snapsOf(want)
	for changed := range snaps {
		spoilSnap(snaps[changed])
		for at := changed + 1; at < len(snaps); at++ {
			if !equalSnaps(snaps[at], right[at]) {
				t.Errorf("%s: the snapshot at %d is changed with that at %d", call, at, changed)
			}
		}
	}
}

func wantBytesOfOneApart(t *testing.T, call string, got impl.CacheResult) {
	t.Helper()
	var memory [][]byte
	for _, x := range snapsOf(got) {
		memory = append(memory, memoryOfSnap(x)...)
	}
	for changed := range memory {
		before := cloneLists(memory)
		spoil(memory[changed], byte(60+changed%100))
		for at := range memory {
			if at != changed && !bytes.Equal(memory[at], before[at]) {
				t.Errorf("%s: the bytes at %d are changed with those at %d", call, at, changed)
			}
		}
	}
}

// apartHoldings have no fault, and LookSnap and EvictKept do each thing with them that they may do.
func apartHoldings(t *testing.T) []holding {
	t.Helper()
	var list []holding
	for _, mode := range modes() {
		s := knownStore(mode)
		for _, k := range []impl.Cache{{}, {Size: 1}, cacheOf(s, 1, 2), cacheOf(s, 3, 2, 4), cacheOf(s, 5, 4, 2, 0, 5, 1)} {
			list = append(list, holding{s, k})
		}
		list = append(list, holding{twinStore(t, mode), cacheOf(twinStore(t, mode), 2, 1, 2)})
	}
	for _, g := range someGroves(t, 8) {
		list = append(list, holding{g.store, cacheOf(g.store, 3, 8, 3, 5)})
	}
	return list
}

func TestP1CacheSharesNoMemory(t *testing.T) {
	for i, plain := range apartHoldings(t) {
		w := plain.roomy()
		before := w.whole()
		for place := range int64(len(plain.store.Entries)) {
			wantCachesApart(t, "LookSnap", func() impl.CacheResult { return impl.LookSnap(w.store, w.cache, place) }, lookAs(plain.store, plain.cache, place))
		}
		for at := range int64(len(plain.cache.Kept)) {
			wantCachesApart(t, "EvictKept", func() impl.CacheResult { return impl.EvictKept(w.store, w.cache, at) }, evictAs(plain.cache, at))
		}
		if after := w.whole(); !reflect.DeepEqual(after.store, before.store) || !reflect.DeepEqual(after.cache, before.cache) {
			t.Errorf("the store or the cache at %d is changed with an answer", i)
		}
	}
}

// entwinedHolding is a cache whose snapshots share all the memory that they can, with each other and with the store.
func entwinedHolding(t *testing.T, mode int64) holding {
	t.Helper()
	s, _ := entwinedStore(t, mode)
	k := cacheOf(s, 4, 3, 0, 1, 2)
	signers := s.Entries[0].Header.Signers
	for at := range k.Kept {
		x := &k.Kept[at].Snap
		if !equalLists(x.Signers, signers) {
			t.Fatalf("other signers: %+v", x)
		}
		x.Signers = signers
		for i := range x.Recents {
			x.Recents[i].Signer = signers[slices.IndexFunc(signers, func(one []byte) bool { return bytes.Equal(one, x.Recents[i].Signer) })]
		}
	}
	return holding{s, k}
}

// Arguments that share all the memory that they can: what is told of them comes apart.
func TestP1CacheOfOneMemoryComesApart(t *testing.T) {
	for _, mode := range modes() {
		w := entwinedHolding(t, mode)
		plain := w.cloned()
		wantCacheCode(t, "a cache of one memory", w.store, w.cache, impl.OK)
		for place := range int64(4) {
			wantCachesApart(t, "LookSnap", func() impl.CacheResult { return impl.LookSnap(w.store, w.cache, place) }, lookAs(plain.store, plain.cache, place))
			wantCachesApart(t, "EvictKept", func() impl.CacheResult { return impl.EvictKept(w.store, w.cache, place) }, evictAs(plain.cache, place))
		}
		// One list of those that are kept, told in two caches.
		two := impl.Cache{Size: 2, Kept: w.cache.Kept[:2]}
		wantCachesApart(t, "LookSnap of a part", func() impl.CacheResult { return impl.LookSnap(w.store, two, 1) }, lookAs(plain.store, impl.Cache{Size: 2, Kept: plain.cache.Kept[:2]}, 1))
		if !equalStores(w.store, plain.store) || !equalCaches(w.cache, plain.cache) {
			t.Error("an argument that shares memory is changed with an answer")
		}
	}
}

func TestP1CacheAnswersDoNotFollowTheirArguments(t *testing.T) {
	for _, plain := range apartHoldings(t) {
		ask := func(call string, look func(w holding) impl.CacheResult, want impl.CacheResult) {
			w := plain.cloned()
			got := look(w)
			spoilStore(w.store)
			spoilCache(w.cache)
			wantCache(t, call+", its arguments changed since", got, want)
		}
		for place := range int64(len(plain.store.Entries)) {
			ask("LookSnap", func(w holding) impl.CacheResult { return impl.LookSnap(w.store, w.cache, place) }, lookAs(plain.store, plain.cache, place))
		}
		for at := range int64(len(plain.cache.Kept)) {
			ask("EvictKept", func(w holding) impl.CacheResult { return impl.EvictKept(w.store, w.cache, at) }, evictAs(plain.cache, at))
		}
	}
}
