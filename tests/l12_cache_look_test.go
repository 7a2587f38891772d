package tests

import (
	"math"
	"math/rand/v2"
	"reflect"
	"slices"
	"testing"

	"loop.example/g00383/impl"
)

// wantLooked: what LookSnap tells is what the chapter says, the snapshot is that of SnapAt, and the cache has no fault; with a code there is nothing beside it.
func wantLooked(t *testing.T, call string, s impl.Store, k impl.Cache, place int64) impl.CacheResult {
	t.Helper()
	got := impl.LookSnap(s, k, place)
	wantCache(t, "LookSnap of "+call, got, lookAs(s, k, place))
	at := impl.SnapAt(s, place)
	if got.Code != at.Code || !equalSnaps(got.Snap, at.Snap) {
		t.Errorf("LookSnap of %s: %+v, and SnapAt: %+v", call, got, at)
	}
	if got.Code == impl.OK && impl.CacheFault(s, got.Cache) != impl.OK {
		t.Errorf("LookSnap of %s: the cache has a fault: %+v", call, got.Cache)
	}
	return got
}

// wantPlaces: what is told are these places, in this order, each with its own snapshot, and a Hit or none.
func wantPlaces(t *testing.T, call string, s impl.Store, got impl.CacheResult, hit bool, places ...int64) {
	t.Helper()
	if got.Code != impl.OK || got.Hit != hit || !equalCaches(got.Cache, cacheOf(s, got.Cache.Size, places...)) {
		t.Errorf("%s: code %d, hit %v, %v, want %v and %v", call, got.Code, got.Hit, keptPlaces(got.Cache), hit, places)
	}
}

// Written out: what is asked goes behind all others, and the one that was asked longest ago goes.
func TestP13LookSnapWrittenOut(t *testing.T) {
	type step struct {
		place int64
		hit   bool
		then  []int64
	}
	for size, steps := range map[int64][]step{
		0: {{4, false, nil}, {4, false, nil}, {0, false, nil}},
		1: {{4, false, []int64{4}}, {4, true, []int64{4}}, {1, false, []int64{1}}, {4, false, []int64{4}}},
		2: {{1, false, []int64{1}}, {2, false, []int64{1, 2}}, {1, true, []int64{2, 1}}, {4, false, []int64{1, 4}}, {2, false, []int64{4, 2}}, {2, true, []int64{4, 2}}},
		3: {
			{0, false, []int64{0}}, {5, false, []int64{0, 5}}, {2, false, []int64{0, 5, 2}}, {0, true, []int64{5, 2, 0}}, {2, true, []int64{5, 0, 2}},
			{2, true, []int64{5, 0, 2}}, {3, false, []int64{0, 2, 3}}, {5, false, []int64{2, 3, 5}}, {0, false, []int64{3, 5, 0}}, {3, true, []int64{5, 0, 3}},
		},
		5: {
			{5, false, []int64{5}}, {4, false, []int64{5, 4}}, {3, false, []int64{5, 4, 3}}, {2, false, []int64{5, 4, 3, 2}}, {1, false, []int64{5, 4, 3, 2, 1}},
			{0, false, []int64{4, 3, 2, 1, 0}}, {4, true, []int64{3, 2, 1, 0, 4}}, {1, true, []int64{3, 2, 0, 4, 1}}, {5, false, []int64{2, 0, 4, 1, 5}}, {5, true, []int64{2, 0, 4, 1, 5}},
		},
	} {
		for _, mode := range modes() {
			s := knownStore(mode)
			k := impl.NewCache(size).Cache
			for _, one := range steps {
				got := wantLooked(t, "what is written out", s, k, one.place)
				wantPlaces(t, "what is written out", s, got, one.hit, one.then...)
				k = got.Cache
			}
		}
	}
}

// The snapshots are those that are known, told the first time and told again.
func TestP13LookSnapOfWhatIsKnown(t *testing.T) {
	three := [][]byte{addr(1), addr(2), addr(3)}
	recent := func(number int64, who int) impl.Recent { return impl.Recent{Number: number, Signer: addr(who)} }
	votes := []impl.Vote{voteOf(addr(2), addr(9), true), voteOf(addr(1), addr(2), false)}
	for at, x := range map[int64]impl.Snap{
		0: {Signers: three},
		1: {Number: 1, Signers: three, Recents: []impl.Recent{recent(1, 2)}, Votes: votes[:1]},
		2: {Number: 2, Signers: three, Recents: []impl.Recent{recent(1, 2), recent(2, 1)}, Votes: votes},
		4: {Number: 3, Signers: three, Recents: []impl.Recent{recent(2, 1), recent(3, 3)}},
	} {
		for _, mode := range modes() {
			s := knownStore(mode)
			kept := impl.Cache{Size: 1, Kept: []impl.Kept{{Place: at, Snap: x}}}
			first := impl.LookSnap(s, impl.Cache{Size: 1}, at)
			wantCache(t, "LookSnap of what is known", first, impl.CacheResult{Snap: x, Cache: kept})
			wantCache(t, "LookSnap of what is known again", impl.LookSnap(s, first.Cache, at), impl.CacheResult{Snap: x, Hit: true, Cache: kept})
			wantCache(t, "LookSnap of what is known without room", impl.LookSnap(s, impl.Cache{}, at), impl.CacheResult{Snap: x})
		}
	}
}

// All caches of few, of each Size, and each place: kept first, in the midst, last and not at all, with room and without.
func TestP13LookSnapOfEachCache(t *testing.T) {
	for _, mode := range modes() {
		s := strayedStore(mode)
		for i, places := range ordered(6, 3) {
			for _, size := range someSizes(len(places)) {
				if int(size) > len(places)+1 && i%5 > 0 {
					continue
				}
				k := cacheOf(s, size, places...)
				for place := int64(-1); place <= 8; place++ {
					wantLooked(t, "each cache", s, k, place)
				}
			}
		}
	}
}

func TestP13LookSnapOfNoPlace(t *testing.T) {
	for _, mode := range modes() {
		s := strayedStore(mode)
		for _, places := range [][]int64{nil, {0}, {4, 2, 0, 5, 1}} {
			for _, none := range noPlaces(8) {
				wantCache(t, "LookSnap of no place", impl.LookSnap(s, cacheOf(s, 5, places...), none), impl.CacheResult{Code: impl.ErrRange})
			}
		}
		wantCache(t, "LookSnap of no place without room", impl.LookSnap(s, impl.Cache{}, -1), impl.CacheResult{Code: impl.ErrRange})
	}
	for _, g := range append(someGroves(t, 0), someGroves(t, 23)...) {
		last := int64(len(g.store.Entries)) - 1
		wantCache(t, "LookSnap behind the last place", impl.LookSnap(g.store, impl.Cache{Size: 2}, last+1), impl.CacheResult{Code: impl.ErrRange})
		wantCache(t, "LookSnap ahead of the first place", impl.LookSnap(g.store, impl.Cache{Size: 2}, -1), impl.CacheResult{Code: impl.ErrRange})
		kept := impl.Cache{Size: 2, Kept: []impl.Kept{{Place: last, Snap: g.snaps[last]}}}
		wantCache(t, "LookSnap of the last place", impl.LookSnap(g.store, impl.Cache{Size: 2}, last), impl.CacheResult{Snap: g.snaps[last], Cache: kept})
	}
}

// What is kept is a Hit at each place of a cache of five, and stands behind all others then, which stay in their order.
func TestP13LookSnapOfOneThatIsKept(t *testing.T) {
	for _, mode := range modes() {
		s := knownStore(mode)
		for _, places := range [][]int64{{3}, {0, 5}, {4, 2, 0, 5, 1}, {0, 1, 2, 3, 4}, {5, 4, 3, 2, 1}} {
			for _, size := range someSizes(len(places)) {
				for at, place := range places {
					got := wantLooked(t, "one that is kept", s, cacheOf(s, size, places...), place)
					then := append(slices.Concat(places[:at], places[at+1:]), place)
					wantPlaces(t, "one that is kept", s, got, true, then...)
				}
			}
		}
	}
}

// Without a Size nothing is kept, whatever is asked and how often.
func TestP13LookSnapWithoutASize(t *testing.T) {
	for _, g := range append(someGroves(t, 9), wrongGroves(t)...) {
		k := impl.Cache{}
		for range 2 {
			for place, x := range g.snaps {
				got := impl.LookSnap(g.store, k, int64(place))
				wantCache(t, "LookSnap without a Size", got, impl.CacheResult{Snap: x})
				wantHeld(t, "no Size", g.store, got.Cache, int64(place), false)
				k = got.Cache
			}
		}
	}
}

// Asked twice, the second time it is kept, and nothing else is another then.
func TestP13LookSnapTwice(t *testing.T) {
	for _, g := range append(someGroves(t, 7), twinGrove(t)) {
		last := len(g.snaps) - 1
		for size := int64(1); size <= 5; size++ {
			k := cacheOf(g.store, size, int64(last))
			for place, x := range g.snaps[:last] {
				first := wantLooked(t, "one that is asked", g.store, k, int64(place))
				again := wantLooked(t, "one that is asked twice", g.store, first.Cache, int64(place))
				wantCache(t, "LookSnap twice", again, impl.CacheResult{Snap: x, Hit: true, Cache: first.Cache})
				if first.Hit {
					t.Errorf("%d is hit the first time", place)
				}
				wantHeld(t, "one that was asked", g.store, first.Cache, int64(place), true)
				wantHeld(t, "the one ahead of it", g.store, first.Cache, int64(last), size > 1)
			}
		}
	}
}

// twinGrove is a store with the same snapshot at several places.
func twinGrove(t *testing.T) grove {
	t.Helper()
	s := twinStore(t, impl.ModeTurns)
	g := grove{store: s}
	for place := range s.Entries {
		_, x := snapAtAs(s, place)
		g.snaps = append(g.snaps, x)
	}
	return g
}

// The place is asked, not the snapshot: one that is the same at another place is no Hit.
func TestP13LookSnapOfTheSameSnapshotAtAnotherPlace(t *testing.T) {
	for _, mode := range modes() {
		s := twinStore(t, mode)
		got := wantLooked(t, "another place", s, cacheOf(s, 2, 1), 2)
		wantPlaces(t, "another place", s, got, false, 1, 2)
		got = wantLooked(t, "a third place", s, got.Cache, 3)
		wantPlaces(t, "a third place", s, got, false, 2, 3)
		got = wantLooked(t, "one of them", s, got.Cache, 2)
		wantPlaces(t, "one of them", s, got, true, 3, 2)
		wantPlaces(t, "EvictKept of one of them", s, impl.EvictKept(s, got.Cache, 0), false, 2)
		wantHeld(t, "one of them", s, got.Cache, 1, false)
	}
}

// One whose SnapAt has a code: that code, and all else is zero, with room, without, and with others that are kept.
func TestP13LookSnapOfWhatMayNotFollow(t *testing.T) {
	told := map[int64]int{}
	for _, g := range wrongGroves(t) {
		for _, up := range []int{0, 1, len(g.store.Entries) - 1} {
			for _, row := range followFaults(g, up) {
				wrong := int64(len(g.store.Entries))
				s := putAs(g.store, up, g.draft(up, g.free(up)[0]).with(row.change).finished().next)
				s = putAs(s, int(wrong), strayBehind(s.Entries[wrong], 1))
				for _, k := range []impl.Cache{{}, {Size: 1}, cacheOf(s, 1, 0), cacheOf(s, 5, int64(up)), cacheOf(s, 2, 0, 1)} {
					for _, place := range []int64{wrong, wrong + 1} {
						wantCache(t, "LookSnap of what may not follow", impl.LookSnap(s, k, place), impl.CacheResult{Code: row.code})
						wantHeld(t, "what may not follow", s, k, place, false)
					}
				}
				told[row.code]++
			}
		}
	}
	for _, code := range []int64{impl.ErrRule, impl.ErrSign, impl.ErrForm, impl.ErrTaken} {
		if told[code] < 5 {
			t.Errorf("the code %d was told %d times", code, told[code])
		}
	}
}

// What is kept, or is not, changes no snapshot: each place is asked of caches of all kinds, and without any.
func TestP13WhatIsKeptChangesNoSnapshot(t *testing.T) {
	r := rand.New(rand.NewPCG(123, 1))
	for _, g := range append(someGroves(t, 10), someGroves(t, 23)...) {
		for place, x := range g.snaps {
			wantSnap(t, "SnapAt", impl.SnapAt(g.store, int64(place)), impl.OK, x)
			for range 2 {
				k := impl.Cache{Size: r.Int64N(6)}
				for _, other := range r.Perm(len(g.snaps))[:r.Int64N(k.Size+1)] {
					k.Kept = append(k.Kept, impl.Kept{Place: int64(other), Snap: g.snaps[other]})
				}
				got := impl.LookSnap(g.store, k, int64(place))
				if got.Code != impl.OK || !equalSnaps(got.Snap, x) {
					t.Errorf("LookSnap of %d: %+v, want %+v", place, got, x)
				}
			}
		}
	}
}

func TestP13EvictKept(t *testing.T) {
	for _, mode := range modes() {
		s := strayedStore(mode)
		for _, places := range append(ordered(6, 2), []int64{3, 1, 4}, []int64{2, 0, 5, 4}, []int64{4, 2, 0, 5, 1}, []int64{0, 1, 2, 3, 4}) {
			for _, size := range []int64{int64(len(places)), 5} {
				k := cacheOf(s, size, places...)
				for at := int64(-1); at <= int64(len(places))+1; at++ {
					got := impl.EvictKept(s, k, at)
					wantCache(t, "EvictKept", got, evictAs(k, at))
					if got.Code == impl.OK {
						wantGone(t, s, k, at, got.Cache)
					}
				}
				for _, at := range []int64{math.MinInt64, math.MaxInt64, 1 << 32, 1<<32 + 1, 5, 6} {
					wantCache(t, "EvictKept of none", impl.EvictKept(s, k, at), impl.CacheResult{Code: impl.ErrRange})
				}
			}
		}
	}
}

// wantGone: what is taken out of the cache is held no more, and all else is, in its order; and it can be asked again.
func wantGone(t *testing.T, s impl.Store, k impl.Cache, at int64, then impl.Cache) {
	t.Helper()
	gone := k.Kept[at].Place
	for place := int64(-1); place <= int64(len(s.Entries)); place++ {
		held := place != gone && slices.Contains(keptPlaces(k), place)
		wantHeld(t, "what was taken out", s, then, place, held)
	}
	left := slices.DeleteFunc(keptPlaces(k), func(place int64) bool { return place == gone })
	if then.Size != k.Size || !slices.Equal(keptPlaces(then), left) {
		t.Errorf("%d of %v is gone, and %v are left", gone, keptPlaces(k), keptPlaces(then))
	}
	wantCacheCode(t, "what is left", s, then, impl.OK)
	back := wantLooked(t, "what is gone", s, then, gone)
	wantPlaces(t, "what is gone", s, back, false, append(left, gone)...)
}

// A cache without any has none to take out, whatever Size it has.
func TestP13EvictKeptOfNone(t *testing.T) {
	for _, mode := range modes() {
		s := strayedStore(mode)
		for size := range int64(6) {
			for _, kept := range [][]impl.Kept{nil, {}} {
				for _, at := range []int64{-1, 0, 1, 5, math.MaxInt64, math.MinInt64} {
					wantCache(t, "EvictKept of none", impl.EvictKept(s, impl.Cache{Size: size, Kept: kept}, at), impl.CacheResult{Code: impl.ErrRange})
				}
			}
		}
	}
}

// Its number among those that are kept is told, not its place in the store.
func TestP13EvictKeptByItsNumber(t *testing.T) {
	s := knownStore(impl.ModeTurns)
	k := cacheOf(s, 5, 4, 2, 0)
	wantPlaces(t, "EvictKept 0", s, impl.EvictKept(s, k, 0), false, 2, 0)
	wantPlaces(t, "EvictKept 1", s, impl.EvictKept(s, k, 1), false, 4, 0)
	wantPlaces(t, "EvictKept 2", s, impl.EvictKept(s, k, 2), false, 4, 2)
	wantCache(t, "EvictKept 3", impl.EvictKept(s, k, 3), impl.CacheResult{Code: impl.ErrRange})
	wantCache(t, "EvictKept 4", impl.EvictKept(s, k, 4), impl.CacheResult{Code: impl.ErrRange})
}

// One by one all are taken out, the first ones first, the last ones first, and those in the midst.
func TestP13EvictKeptUntilNoneIsLeft(t *testing.T) {
	for _, mode := range modes() {
		s := knownStore(mode)
		for _, which := range []func(left int) int64{
			func(int) int64 { return 0 },
			func(left int) int64 { return int64(left) - 1 },
			func(left int) int64 { return int64(left) / 2 },
		} {
			k := cacheOf(s, 5, 4, 2, 0, 5, 1)
			for left := 5; left > 0; left-- {
				at := which(left)
				got := impl.EvictKept(s, k, at)
				wantCache(t, "EvictKept one by one", got, evictAs(k, at))
				wantGone(t, s, k, at, got.Cache)
				k = got.Cache
			}
			wantCache(t, "EvictKept behind the last one", impl.EvictKept(s, k, 0), impl.CacheResult{Code: impl.ErrRange})
		}
	}
}

// wantCleared: in the room behind those that are kept nothing of others is left.
func wantCleared(t *testing.T, call string, k impl.Cache) {
	t.Helper()
	for _, one := range k.Kept[len(k.Kept):cap(k.Kept)] {
		if !reflect.DeepEqual(one, impl.Kept{}) {
			t.Errorf("%s: behind %v there is %+v", call, keptPlaces(k), one)
		}
	}
}

// What is gone is held nowhere in what is told, out of sight either.
func TestP13WhatIsGoneIsNotHeldOutOfSight(t *testing.T) {
	for _, mode := range modes() {
		s := knownStore(mode)
		for _, places := range append(ordered(6, 2), []int64{3, 1, 4}, []int64{2, 0, 5, 4}, []int64{4, 2, 0, 5, 1}, []int64{0, 1, 2, 3, 4}) {
			k := cacheOf(s, int64(len(places)), places...)
			for at := range int64(len(places)) {
				wantCleared(t, "EvictKept", impl.EvictKept(s, k, at).Cache)
			}
			for place := range int64(6) {
				wantCleared(t, "LookSnap", impl.LookSnap(s, k, place).Cache)
			}
		}
	}
}

// A cache stays right as its store grows: entries that are there stay, and so do their snapshots.
func TestP13CacheOfAStoreThatGrows(t *testing.T) {
	r := rand.New(rand.NewPCG(124, 1))
	for _, mode := range modes() {
		for _, ups := range shapes(12) {
			g := groveOf(t, r.Uint64(), mode)
			s, k := g.store, impl.NewCache(1+r.Int64N(5)).Cache
			for at, up := range ups {
				got := wantLooked(t, "the parent", s, k, int64(up))
				h := g.some(r, up)
				g = g.grown(t, up, h)
				s, k = impl.AddHeader(s, h).Store, got.Cache
				wantCacheCode(t, "a store that has grown", s, k, impl.OK)
				wantHeld(t, "a store that has grown", s, k, int64(up), true)
				wantHeld(t, "a store that has grown", s, k, int64(at)+1, false)
			}
		}
	}
}

// Long runs of looks and of what is taken out, of each Size: each is answered as the chapter says, and no snapshot is another one.
func TestP13ManyLooksAndEvictions(t *testing.T) {
	hits, misses, gone := 0, 0, 0
	for i, g := range append(someGroves(t, 8), wrongGroves(t)...) {
		r := rand.New(rand.NewPCG(125, uint64(i)))
		// What may not follow is among what is asked.
		s := putAs(g.store, 0, strayBehind(g.store.Entries[0], 1))
		k := impl.NewCache(int64(i) % 6).Cache
		for range 60 {
			if at := r.Int64N(7) - 1; r.IntN(4) == 0 {
				got := impl.EvictKept(s, k, at)
				wantCache(t, "EvictKept of a run", got, evictAs(k, at))
				if got.Code == impl.OK {
					wantHeld(t, "a run", s, got.Cache, k.Kept[at].Place, false)
					gone++
					k = got.Cache
				}
				continue
			}
			place := r.Int64N(int64(len(s.Entries))+2) - 1
			got := wantLooked(t, "a run", s, k, place)
			if got.Code != impl.OK {
				continue
			}
			if got.Hit {
				hits++
			} else {
				misses++
			}
			k = got.Cache
		}
	}
	if hits < 60 || misses < 100 || gone < 40 {
		t.Errorf("%d were hit, %d were not, %d were taken out", hits, misses, gone)
	}
}
