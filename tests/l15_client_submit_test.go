package tests

import (
	"math/rand/v2"
	"slices"
	"testing"

	"loop.example/g00383/impl"
)

// wantSubmitted: what SubmitHeader tells is what the chapter says, with that code and so many that joined; with OK the header is there, or waits.
func wantSubmitted(t *testing.T, call string, c impl.Client, h impl.Header, code int64, joined int64) impl.Client {
	t.Helper()
	want := submitAs(c, h)
	if want.Code != code || want.Joined != joined {
		t.Fatalf("%s: by the chapter it is %d and %d, the test wants %d and %d: %+v to %+v", call, want.Code, want.Joined, code, joined, h, c)
	}
	got := impl.SubmitHeader(c, h)
	wantClient(t, "SubmitHeader of "+call, got, want)
	if code != impl.OK {
		return got.Client
	}
	if fault := impl.ClientFault(got.Client); fault != impl.OK {
		t.Errorf("SubmitHeader of %s: the client has the fault %d: %+v", call, fault, got.Client)
	}
	waits := slices.ContainsFunc(got.Client.Orphans, func(o impl.Header) bool { return equalHeaders(o, h) })
	if place := entryWith(got.Client.Store, hashAs(h, h.Seal)); (place >= 0) == waits || (joined > 0) == waits {
		t.Errorf("SubmitHeader of %s: at %d, and it waits: %v", call, place, waits)
	}
	return got.Client
}

// wantAll: these are its entries and its orphans, and what its cache keeps stands behind these entries, in this order.
func wantAll(t *testing.T, call string, c impl.Client, entries []impl.Header, orphans []impl.Header, places ...int64) {
	t.Helper()
	var there []impl.Header
	for _, e := range c.Store.Entries {
		there = append(there, e.Header)
	}
	if !slices.EqualFunc(there, entries, equalHeaders) {
		t.Errorf("%s: the entries are %+v, want %+v", call, there, entries)
	}
	if !slices.EqualFunc(c.Orphans, orphans, equalHeaders) {
		t.Errorf("%s: the orphans are %+v, want %+v", call, c.Orphans, orphans)
	}
	if !equalCaches(c.Cache, cacheOf(c.Store, c.Cache.Size, places...)) {
		t.Errorf("%s: kept is %v, want %v", call, keptPlaces(c.Cache), places)
	}
}

// headersOf are those of a store's entries.
func headersOf(s impl.Store) []impl.Header {
	var headers []impl.Header
	for _, e := range s.Entries {
		headers = append(headers, e.Header)
	}
	return headers
}

func picked(headers []impl.Header, numbers ...int) []impl.Header {
	var list []impl.Header
	for _, n := range numbers {
		list = append(list, headers[n])
	}
	return list
}

// beginningOf is a client of the first entry of a store alone.
func beginningOf(s impl.Store, size int64) impl.Client {
	return impl.Client{Store: withStore(s, func(s *impl.Store) { s.Entries = s.Entries[:1] }), Cache: impl.Cache{Size: size}}
}

// Behind the first entry, the last one and each in the midst: it is the last entry, and the snapshot behind its parent is kept.
func TestP16SubmitHeaderBehindEach(t *testing.T) {
	r := rand.New(rand.NewPCG(152, 1))
	for _, count := range []int{0, 1, 5, 22} {
		for i, g := range someGroves(t, count) {
			for up := range g.store.Entries {
				if count > 6 && (up+i)%5 > 0 {
					continue
				}
				h := g.some(r, up)
				for _, size := range []int64{0, 1, 5} {
					c := clientOf(g.store, strays(i%7), size)
					got := wantSubmitted(t, "one that may follow", c, h, impl.OK, 1)
					var kept []int64
					if size > 0 {
						kept = []int64{int64(up)}
					}
					wantAll(t, "one that may follow", got, append(headersOf(g.store), h), strays(i%7), kept...)
					if e := got.Store.Entries[count+1]; e.Up != int64(up) {
						t.Errorf("it is behind %d, want %d", e.Up, up)
					}
				}
			}
		}
	}
}

// What is known: the hashes were worked out apart from the program.
func TestP16SubmitHeaderOfWhatIsKnown(t *testing.T) {
	for _, mode := range modes() {
		s := knownStore(mode)
		c := impl.NewClient(s.Config, s.Entries[0].Header, 2).Client
		for at, kept := range [][]int64{nil, {0}, {0, 1}, {1, 0}, {0, 2}, {2, 3}} {
			if at == 0 {
				continue
			}
			got := impl.SubmitHeader(c, s.Entries[at].Header)
			want := impl.Client{Store: impl.Store{Config: s.Config, Entries: s.Entries[:at+1]}, Cache: cacheOf(s, 2, kept...)}
			wantClient(t, "SubmitHeader of what is known", got, impl.ClientResult{Joined: 1, Client: want})
			c = got.Client
		}
		wantHeader(t, "HeadIn what is known", impl.HeadIn(c), impl.OK, s.Entries[4].Header)
	}
}

// Handed in from the last one to the first one: each waits for the next, and all join at once in the end.
func TestP16SubmitHeaderFromTheLastToTheFirst(t *testing.T) {
	for _, mode := range modes() {
		s := knownStore(mode)
		all := headersOf(s)
		for size := range int64(6) {
			c := beginningOf(s, size)
			c = wantSubmitted(t, "the last of three", c, all[4], impl.OK, 0)
			wantAll(t, "the last of three", c, all[:1], picked(all, 4))
			c = wantSubmitted(t, "the second of three", c, all[2], impl.OK, 0)
			wantAll(t, "the second of three", c, all[:1], picked(all, 4, 2))
			c = wantSubmitted(t, "the last of another two", c, all[5], impl.OK, 0)
			wantAll(t, "the last of another two", c, all[:1], picked(all, 4, 2, 5))
			c = wantSubmitted(t, "the first of three", c, all[1], impl.OK, 3)
			three := [][]int64{{}, {2}, {1, 2}, {0, 1, 2}, {0, 1, 2}, {0, 1, 2}}[size]
			wantAll(t, "the first of three", c, picked(all, 0, 1, 2, 4), picked(all, 5), three...)
			c = wantSubmitted(t, "the first of another two", c, all[3], impl.OK, 2)
			// The first entry was asked again, and then the place 4, which is all[3].
			five := [][]int64{{}, {4}, {0, 4}, {2, 0, 4}, {1, 2, 0, 4}, {1, 2, 0, 4}}[size]
			wantAll(t, "the first of another two", c, picked(all, 0, 1, 2, 4, 3, 5), nil, five...)
		}
	}
}

// Six that wait for one another, the first one last of all.
func TestP16SubmitHeaderOfALineBackwards(t *testing.T) {
	for _, mode := range modes() {
		g := groveOf(t, 31, mode, lineUps(7)...)
		all := headersOf(g.store)
		for size := range int64(6) {
			c := beginningOf(g.store, size)
			for number := 7; number > 1; number-- {
				c = wantSubmitted(t, "one of a line backwards", c, all[number], impl.OK, 0)
			}
			c = wantSubmitted(t, "the first of a line", c, all[1], impl.OK, 7)
			var kept []int64
			for place := 7 - size; place < 7; place++ {
				kept = append(kept, place)
			}
			wantAll(t, "a line backwards", c, all, nil, kept...)
		}
	}
}

// After each that joins the first orphan is asked again: one that stands ahead of others goes ahead of them, though its parent came later than theirs.
func TestP16SubmitHeaderAsksTheFirstOrphanAgain(t *testing.T) {
	for _, mode := range modes() {
		// 1 is behind 0; 2, 4 and 5 are behind 1; 3 is behind 2; 6 is behind 4.
		g := groveOf(t, 33, mode, 0, 1, 2, 1, 1, 4)
		all := headersOf(g.store)
		for _, row := range []struct {
			orphans, entries []int
			kept             []int64
		}{
			{[]int{3, 2, 4}, []int{0, 1, 2, 3, 4}, []int64{0, 2, 1}},
			{[]int{3, 4, 2}, []int{0, 1, 4, 2, 3}, []int64{0, 1, 3}},
			{[]int{6, 3, 5, 4, 2}, []int{0, 1, 5, 4, 6, 2, 3}, []int64{0, 3, 1, 5}},
			{[]int{6, 3, 2, 5, 4}, []int{0, 1, 2, 3, 5, 4, 6}, []int64{0, 2, 1, 5}},
			{[]int{6, 4, 3, 2, 5}, []int{0, 1, 4, 6, 2, 3, 5}, []int64{0, 2, 4, 1}},
			{[]int{2, 3, 4, 5, 6}, []int{0, 1, 2, 3, 4, 5, 6}, []int64{0, 2, 1, 4}},
			{[]int{5, 4, 3, 2}, []int{0, 1, 5, 4, 2, 3}, []int64{0, 1, 4}},
		} {
			c := beginningOf(g.store, 5)
			for _, number := range row.orphans {
				c = wantSubmitted(t, "one that waits", c, all[number], impl.OK, 0)
			}
			wantAll(t, "some that wait", c, all[:1], picked(all, row.orphans...))
			c = wantSubmitted(t, "the one they wait for", c, all[1], impl.OK, int64(len(row.entries))-1)
			wantAll(t, "all that waited", c, picked(all, row.entries...), nil, row.kept...)
		}
	}
}

// Two orphans of one parent; others wait on, in their order.
func TestP16SubmitHeaderOfTwoOfOneParent(t *testing.T) {
	for _, mode := range modes() {
		g := groveOf(t, 34, mode, 0, 1, 1, 0, 4)
		all := headersOf(g.store)
		c := beginningOf(g.store, 2)
		for _, h := range []impl.Header{all[3], stray(1), all[5], all[2], stray(2)} {
			c = wantSubmitted(t, "one that waits", c, h, impl.OK, 0)
		}
		c = wantSubmitted(t, "the parent of two", c, all[1], impl.OK, 3)
		wantAll(t, "two of one parent", c, picked(all, 0, 1, 3, 2), []impl.Header{stray(1), all[5], stray(2)}, 0, 1)
		c = wantSubmitted(t, "the parent of the last one", c, all[4], impl.OK, 2)
		wantAll(t, "the last one", c, picked(all, 0, 1, 3, 2, 4, 5), []impl.Header{stray(1), stray(2)}, 0, 4)
	}
}

// One whose parent is not there waits, behind those who wait already; the store and the cache are as they were.
func TestP16SubmitHeaderWithoutAParent(t *testing.T) {
	for _, mode := range modes() {
		s := strayedStore(mode)
		for count := range 6 {
			for _, size := range []int64{0, 3, 5} {
				c := clientOf(s, strays(count), size, []int64{4, 2}[:min(2, size)]...)
				headers := []impl.Header{
					stray(100), withChange(stray(101), func(h *impl.Header) { h.Parent = make([]byte, 32) }), withChange(stray(102), func(h *impl.Header) { h.Parent = flipped(s.Entries[1].Hash, 255) }),
					behindHeader(stray(103), 1), fullHeader(), bareHeader(),
				}
				if count > 0 {
					headers = append(headers, behindHeader(stray(0), 1), behindHeader(stray(byte(count)-1), 2))
				}
				for _, h := range headers {
					got := wantSubmitted(t, "one whose parent is not there", c, h, impl.OK, 0)
					wantAll(t, "one whose parent is not there", got, headersOf(s), append(strays(count), h), []int64{4, 2}[:min(2, size)]...)
				}
			}
		}
	}
}

// What waits is not asked by what rules: it may be anything without a fault.
func TestP16SubmitHeaderAsksNoRulesOfWhatWaits(t *testing.T) {
	for _, g := range wrongGroves(t) {
		c := beginningOf(g.store, 1)
		for _, row := range addFaults(g, 1) {
			h := g.draft(1, g.free(1)[0]).with(row.change).finished().next
			wantSubmitted(t, "one that may not follow, and waits", c, h, impl.OK, 0)
		}
	}
}

// One that is there, or that waits, with other Commits too; at each place.
func TestP16SubmitHeaderOfWhatIsTaken(t *testing.T) {
	for _, mode := range modes() {
		s := strayedStore(mode)
		for count := range 7 {
			c := clientOf(s, strays(count), 5, 4, 0)
			for _, h := range slices.Concat(headersOf(s), strays(count)) {
				wantSubmitted(t, "one that is taken", c, h, impl.ErrTaken, 0)
				for _, commits := range [][][]byte{nil, someCommits(1), someCommits(7)} {
					wantSubmitted(t, "one that is taken, with other Commits", c, withCommits(h, commits), impl.ErrTaken, 0)
				}
			}
		}
		full := clientOf(fullOf(s), strays(6), 1)
		for _, h := range append(headersOf(full.Store), strays(6)...) {
			wantSubmitted(t, "one that is taken, and no room", full, h, impl.ErrTaken, 0)
		}
	}
}

// Handed in twice, each of a line: the second time it is taken, while it waits and once it is there.
func TestP16SubmitHeaderTwice(t *testing.T) {
	for _, mode := range modes() {
		g := groveOf(t, 35, mode, lineUps(4)...)
		all := headersOf(g.store)
		c := beginningOf(g.store, 3)
		for _, number := range []int{3, 2, 4, 1} {
			joined := int64(0)
			if number == 1 {
				joined = 4
			}
			c = wantSubmitted(t, "the first time", c, all[number], impl.OK, joined)
			wantSubmitted(t, "the second time", c, all[number], impl.ErrTaken, 0)
		}
		for _, h := range all {
			wantSubmitted(t, "what is there", c, h, impl.ErrTaken, 0)
		}
	}
}

func TestP16SubmitHeaderWithAFault(t *testing.T) {
	for _, g := range wrongGroves(t) {
		for up, e := range g.store.Entries {
			c := clientOf(g.store, strays(up), 2, int64(up))
			for _, row := range headerFaultChanges() {
				right := g.draft(up, g.free(up)[0])
				wantSubmitted(t, "one with a fault", c, right.with(func(d *draft) { d.last = row.change }).finished().next, row.code, 0)
				wantSubmitted(t, "one that is there, with a fault", c, withChange(e.Header, row.change), row.code, 0)
				wantSubmitted(t, "one that would wait, with a fault", c, withChange(stray(99), row.change), row.code, 0)
			}
		}
	}
}

// Each code of CheckNext behind each entry: the parent is kept or not, there is room or not, and others wait.
func TestP16SubmitHeaderThatMayNotFollow(t *testing.T) {
	told := map[int64]int{}
	for _, g := range wrongGroves(t) {
		full := fullOf(g.store)
		for up := range g.store.Entries {
			right := g.draft(up, g.free(up)[0])
			for i, row := range addFaults(g, up) {
				h := right.with(row.change).finished().next
				for _, c := range []impl.Client{clientOf(g.store, nil, 0), clientOf(g.store, strays(6), 2, int64(up))} {
					wantSubmitted(t, "one that may not follow", c, h, row.code, 0)
				}
				if i%3 == 0 {
					wantSubmitted(t, "one that may not follow, and no room", clientOf(full, nil, 1), h, row.code, 0)
				}
				told[row.code]++
			}
		}
	}
	for _, code := range []int64{impl.ErrRange, impl.ErrRule, impl.ErrSign, impl.ErrForm, impl.ErrTaken} {
		if told[code] < 10 {
			t.Errorf("the code %d was told %d times", code, told[code])
		}
	}
}
