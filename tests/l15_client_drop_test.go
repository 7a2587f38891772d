package tests

import (
	"math/rand/v2"
	"slices"
	"testing"

	"loop.example/g00383/impl"
)

// Each code of CheckNext, told of an orphan: it is gone, what waits behind it waits on, and what stands ahead of it and behind it joins. The cache is as if it had not been asked.
func TestP16SubmitHeaderDropsAnOrphan(t *testing.T) {
	told := map[int64]int{}
	for _, g := range wrongGroves(t) {
		all := headersOf(g.store)
		// 2 is behind 1, and 5 and 6 are behind 2.
		before := impl.Store{Config: g.store.Config, Entries: g.store.Entries[:2]}
		for _, row := range addFaults(g, 2) {
			wrong := g.draft(2, g.free(2)[0]).with(row.change).finished().next
			// It says any Number: nobody asks what it is as long as it waits.
			child := withChange(behindHeader(wrong, 1), func(h *impl.Header) { h.Number = 5 })
			for _, orphans := range [][]impl.Header{{wrong, child, all[5], all[6]}, {child, all[5], wrong, all[6]}, {all[5], all[6], child, wrong}} {
				c := clientOf(before, orphans, 2, 0)
				c = wantSubmitted(t, "the parent of one that may not follow", c, all[2], impl.OK, 3)
				wantAll(t, "one that is dropped", c, picked(all, 0, 1, 2, 5, 6), []impl.Header{child}, 1, 2)
				// It is neither there nor does it wait: it is asked anew.
				wantSubmitted(t, "one that was dropped", c, wrong, row.code, 0)
				wantSubmitted(t, "what waits for one that was dropped", c, child, impl.ErrTaken, 0)
			}
			c := wantSubmitted(t, "the parent of nothing else", clientOf(before, []impl.Header{child, wrong}, 5, 0), all[2], impl.OK, 1)
			wantAll(t, "nothing but one that is dropped", c, picked(all, 0, 1, 2), []impl.Header{child}, 0, 1)
			c = wantSubmitted(t, "the parent, with no cache", clientOf(before, []impl.Header{wrong}, 0), all[2], impl.OK, 1)
			wantAll(t, "one that is dropped, with no cache", c, picked(all, 0, 1, 2), nil)
			told[row.code]++
		}
	}
	for _, code := range []int64{impl.ErrRange, impl.ErrRule, impl.ErrSign, impl.ErrForm, impl.ErrTaken} {
		if told[code] < 2 {
			t.Errorf("the code %d was told %d times", code, told[code])
		}
	}
}

// early is a header behind an entry of a grove that comes too soon for it.
func (g grove) early(up int) impl.Header {
	return g.draft(up, g.free(up)[0]).with(func(d *draft) { d.next.Time = 0 }).finished().next
}

// Written out: a hit and a miss by one that is dropped are not to be seen in the cache.
func TestP16SubmitHeaderDropsWhatItKept(t *testing.T) {
	for _, mode := range modes() {
		// 1 and 2 are behind 0; 3 is behind 2; 4 is behind 3.
		g := groveOf(t, 41, mode, 0, 0, 2, 3)
		all, wrong := headersOf(g.store), g.early(2)
		before := impl.Store{Config: g.store.Config, Entries: g.store.Entries[:2]}
		for _, row := range []struct {
			size    int64
			kept    []int64
			orphans []impl.Header
			entries []int
			then    []int64
		}{
			{2, []int64{0, 1}, nil, []int{0, 1, 2}, []int64{1, 0}},
			{2, []int64{0, 1}, []impl.Header{wrong}, []int{0, 1, 2}, []int64{1, 0}},
			{2, []int64{0, 1}, []impl.Header{wrong, all[3]}, []int{0, 1, 2, 3}, []int64{0, 2}},
			{2, []int64{0, 1}, []impl.Header{all[3], wrong}, []int{0, 1, 2, 3}, []int64{0, 2}},
			{2, []int64{0, 1}, []impl.Header{all[3], all[4]}, []int{0, 1, 2, 3, 4}, []int64{2, 3}},
			{2, []int64{0, 1}, []impl.Header{all[3], all[4], wrong}, []int{0, 1, 2, 3, 4}, []int64{2, 3}},
			{2, []int64{0, 1}, []impl.Header{wrong, all[4], all[3]}, []int{0, 1, 2, 3, 4}, []int64{2, 3}},
			{5, []int64{1}, []impl.Header{all[3], all[4], wrong}, []int{0, 1, 2, 3, 4}, []int64{1, 0, 2, 3}},
			{5, nil, []impl.Header{wrong}, []int{0, 1, 2}, []int64{0}},
			{1, []int64{1}, []impl.Header{wrong}, []int{0, 1, 2}, []int64{0}},
			{1, nil, []impl.Header{all[3], wrong}, []int{0, 1, 2, 3}, []int64{2}},
			{0, nil, []impl.Header{all[3], wrong, all[4]}, []int{0, 1, 2, 3, 4}, nil},
		} {
			c := clientOf(before, row.orphans, row.size, row.kept...)
			c = wantSubmitted(t, "what is written out", c, all[2], impl.OK, int64(len(row.entries))-2)
			wantAll(t, "what is written out", c, picked(all, row.entries...), nil, row.then...)
		}
	}
}

// Several that are dropped, one behind the other in the list; and one that waits for a dropped one is not dropped with it, whatever it is.
func TestP16SubmitHeaderDropsSeveral(t *testing.T) {
	for _, mode := range modes() {
		g := groveOf(t, 42, mode, 0, 1, 1, 2)
		all := headersOf(g.store)
		before := impl.Store{Config: g.store.Config, Entries: g.store.Entries[:1]}
		one, two := g.early(1), g.early(2)
		three := g.draft(1, g.free(1)[0]).with(func(d *draft) { d.seal = func([]byte) []byte { return nil } }).finished().next
		grandchild := behindHeader(behindHeader(one, 1), 2)
		for _, orphans := range [][]impl.Header{{one, three, two, grandchild, all[2]}, {two, grandchild, one, all[2], three}, {all[2], three, grandchild, two, one}} {
			c := wantSubmitted(t, "the parent of several", clientOf(before, orphans, 1), all[1], impl.OK, 2)
			wantAll(t, "several that are dropped", c, picked(all, 0, 1, 2), []impl.Header{grandchild}, 1)
		}
		c := wantSubmitted(t, "all of them", clientOf(before, []impl.Header{one, three}, 1), all[1], impl.OK, 1)
		wantAll(t, "all of them", c, picked(all, 0, 1), nil, 0)
		// A dropped one and what waits for it take up no more room than they have.
		six := []impl.Header{one, behindHeader(one, 1), behindHeader(one, 2), stray(1), stray(2), stray(3)}
		c = wantSubmitted(t, "the parent of one of six", clientOf(before, six, 1), all[1], impl.OK, 1)
		wantAll(t, "five that are left", c, picked(all, 0, 1), six[1:], 0)
		c = wantSubmitted(t, "a sixth", c, stray(4), impl.OK, 0)
		wantSubmitted(t, "a seventh", c, stray(5), impl.ErrFull, 0)
	}
}

// Six wait, and no more: what has a parent joins all the same, and makes room where others wait for it.
func TestP16SubmitHeaderOfTheSeventhOrphan(t *testing.T) {
	for _, mode := range modes() {
		g := groveOf(t, 43, mode, 0, 1, 2, 0)
		all := headersOf(g.store)
		c := beginningOf(g.store, 2)
		waiting := []impl.Header{all[3], stray(1), all[2], stray(2), stray(3), stray(4)}
		for at, h := range waiting {
			c = wantSubmitted(t, "one of six", c, h, impl.OK, 0)
			wantAll(t, "one of six", c, all[:1], waiting[:at+1])
		}
		for _, h := range []impl.Header{stray(5), behindHeader(stray(1), 1), behindHeader(all[3], 1), fullHeader()} {
			wantSubmitted(t, "a seventh", c, h, impl.ErrFull, 0)
		}
		wantSubmitted(t, "one of the six again", c, stray(4), impl.ErrTaken, 0)
		wantSubmitted(t, "a seventh with a fault", c, withChange(stray(5), func(h *impl.Header) { h.Hard = 10 }), impl.ErrRange, 0)
		wantSubmitted(t, "one that may not follow", c, g.early(0), impl.ErrRule, 0)
		beside := wantSubmitted(t, "one nobody waits for", c, all[4], impl.OK, 1)
		wantAll(t, "one nobody waits for", beside, picked(all, 0, 4), waiting, 0)
		wantSubmitted(t, "a seventh behind that", beside, stray(5), impl.ErrFull, 0)
		then := wantSubmitted(t, "one that two wait for", c, all[1], impl.OK, 3)
		wantAll(t, "one that two wait for", then, picked(all, 0, 1, 2, 3), strays(5)[1:], 1, 2)
		for _, h := range []impl.Header{stray(6), stray(7)} {
			then = wantSubmitted(t, "the fifth and the sixth", then, h, impl.OK, 0)
		}
		wantSubmitted(t, "a seventh again", then, stray(8), impl.ErrFull, 0)
	}
}

// fullGrove has 24 entries, the last ones behind those that are told.
func fullGrove(t *testing.T, mode int64, last ...int) grove {
	t.Helper()
	ups := someUps(44, 23)
	copy(ups[len(ups)-len(last):], last)
	return groveOf(t, 44, mode, ups...)
}

// The entry behind the 24th: whatever it is, and what else is told ahead of that.
func TestP16SubmitHeaderBehindThe24th(t *testing.T) {
	r := rand.New(rand.NewPCG(153, 1))
	for _, mode := range modes() {
		g := fullGrove(t, mode)
		for up := range g.store.Entries {
			h := g.some(r, up)
			c := clientOf(g.store, strays(up%7), int64(up%6))
			wantSubmitted(t, "a 25th", c, h, impl.ErrFull, 0)
			wantSubmitted(t, "a 25th that may not follow", c, g.early(up), impl.ErrRule, 0)
			wantSubmitted(t, "a 25th with a fault", c, withChange(h, func(h *impl.Header) { h.Commits = someCommits(8) }), impl.ErrMany, 0)
		}
		c := clientOf(g.store, nil, 1, 23)
		for at := range 6 {
			got := wantSubmitted(t, "one that waits beside 24", c, stray(byte(at)), impl.OK, 0)
			wantAll(t, "one that waits beside 24", got, headersOf(g.store), strays(at+1), 23)
			c = got
		}
		wantSubmitted(t, "a 25th, and six wait", c, g.some(r, 0), impl.ErrFull, 0)
		wantSubmitted(t, "a seventh that waits beside 24", c, stray(9), impl.ErrFull, 0)
	}
}

// One that finds no room when its parent comes is dropped, as all that are ready behind it are; the cache is as it was ahead of them.
func TestP16SubmitHeaderDropsWhatFindsNoRoom(t *testing.T) {
	r := rand.New(rand.NewPCG(154, 1))
	for _, mode := range modes() {
		// 21 is behind 0; 22 and 23 are behind 21.
		g := fullGrove(t, mode, 0, 21, 21)
		all := headersOf(g.store)
		more, child := g.some(r, 21), g.some(r, 22)
		upTo := func(count int) impl.Store {
			return impl.Store{Config: g.store.Config, Entries: g.store.Entries[:count]}
		}
		for size, kept := range [][]int64{nil, {0}, {0}, {0}, {0}, {0}} {
			// With 21 there is room for all three.
			c := clientOf(upTo(21), []impl.Header{all[22], all[23]}, int64(size))
			c = wantSubmitted(t, "the 22nd", c, all[21], impl.OK, 3)
			wantAll(t, "the 24th is there", c, all, nil, [][]int64{nil, {21}, {0, 21}, {0, 21}, {0, 21}, {0, 21}}[size]...)
			// With one more orphan the last one of them finds none.
			for last, orphans := range map[int][]impl.Header{22: {all[23], more, all[22]}, 23: {all[22], more, all[23]}} {
				c = clientOf(upTo(21), orphans, int64(size))
				c = wantSubmitted(t, "the 22nd of 25", c, all[21], impl.OK, 3)
				wantAll(t, "the last one is dropped", c, append(slices.Clone(all[:22]), all[22+23-last], more), nil, [][]int64{nil, {21}, {0, 21}, {0, 21}, {0, 21}, {0, 21}}[size]...)
				wantSubmitted(t, "the one that was dropped", c, all[last], impl.ErrFull, 0)
			}
			// The 24th itself: none that waits for it finds room, and what waits for these waits on.
			ready := clientOf(withStore(upTo(21), func(s *impl.Store) {
				s.Entries = append(s.Entries, putAs(*s, 0, g.some(r, 0)).Entries[21])
				s.Entries = append(s.Entries, putAs(*s, 0, g.some(r, 0)).Entries[22])
			}), []impl.Header{child, stray(1), all[22], all[23], stray(2)}, int64(size))
			c = wantSubmitted(t, "the 24th", ready, all[21], impl.OK, 1)
			wantAll(t, "all that find no room", c, append(headersOf(ready.Store), all[21]), []impl.Header{child, stray(1), stray(2)}, kept...)
		}
	}
}

// Behind an entry that may not follow, and behind what is behind it, nothing may: its code is told.
func TestP16SubmitHeaderBehindOneThatMayNotFollow(t *testing.T) {
	for _, g := range wrongGroves(t) {
		for i, row := range followFaults(g, 3) {
			wrong := len(g.store.Entries)
			s := putAs(g.store, 3, g.draft(3, g.free(3)[0]).with(row.change).finished().next)
			s = putAs(s, wrong, strayBehind(s.Entries[wrong], 1))
			for place := wrong; place < len(s.Entries); place++ {
				for _, c := range []impl.Client{clientOf(s, nil, 0), clientOf(s, strays(6), 5, 3, 1)} {
					wantSubmitted(t, "one behind one that may not follow", c, strayBehind(s.Entries[place], 7), row.code, 0)
				}
			}
			if i%4 == 0 {
				wantSubmitted(t, "one behind one that may not follow, and no room", clientOf(fullOf(s), nil, 1), strayBehind(s.Entries[wrong], 7), row.code, 0)
				// Behind the others it goes on.
				h := g.draft(3, g.free(3)[0]).with(func(d *draft) { d.next.Time += 9 }).finished().next
				wantSubmitted(t, "one beside one that may not follow", clientOf(s, strays(2), 1), h, impl.OK, 1)
			}
		}
	}
}

// Two at once, for each two that stand beside each other: the client, the header, taken, no room to wait, the rules, no room.
func TestP16SubmitHeaderOfNeighbours(t *testing.T) {
	for _, g := range wrongGroves(t) {
		loose := putAs(g.store, 3, g.draft(3, g.free(3)[0]).with(func(d *draft) { d.seal = func([]byte) []byte { return nil } }).finished().next)
		some, six, full := clientOf(loose, strays(2), 1), clientOf(loose, strays(6), 1), clientOf(fullOf(loose), strays(6), 1)
		faulty := withClient(some, func(c *impl.Client) { c.Orphans[1] = cloneHeader(c.Orphans[0]) })
		there := g.store.Entries[2].Header
		formless := func(h impl.Header) impl.Header { return withCommits(h, [][]byte{fill(7)}) }
		right, soon := g.draft(2, g.free(2)[0]).with(func(d *draft) { d.next.Time += 5 }).finished().next, g.early(2)
		for _, row := range []struct {
			call string
			c    impl.Client
			h    impl.Header
			code int64
		}{
			{"a client, a header", faulty, formless(right), impl.ErrTaken},
			{"a client, nothing", faulty, right, impl.ErrTaken},
			{"a client, one that waits", faulty, stray(9), impl.ErrTaken},
			{"no client, a header", impl.Client{}, impl.Header{}, impl.ErrRange},
			{"a header, taken", some, formless(there), impl.ErrForm},
			{"a header, one that waits already", some, formless(stray(0)), impl.ErrForm},
			{"a header, no room to wait", six, formless(stray(9)), impl.ErrForm},
			{"a header, too soon", some, formless(soon), impl.ErrForm},
			{"a header, no room", full, formless(right), impl.ErrForm},
			{"taken, no room to wait", six, stray(5), impl.ErrTaken},
			{"taken, may not follow", some, loose.Entries[7].Header, impl.ErrTaken},
			{"taken, no room", full, there, impl.ErrTaken},
			{"no room to wait", six, stray(9), impl.ErrFull},
			{"behind one that may not follow, too soon", some, strayBehind(loose.Entries[7], 1), impl.ErrSign},
			{"behind one that may not follow, no room", full, strayBehind(loose.Entries[7], 99), impl.ErrSign},
			{"too soon, no room", full, soon, impl.ErrRule},
			{"no room", full, right, impl.ErrFull},
		} {
			wantSubmitted(t, row.call, row.c, row.h, row.code, 0)
		}
		wantSubmitted(t, "nothing", six, right, impl.OK, 1)
	}
}

// Bytes that are a header: what comes of them is what comes of it.
func TestP16SubmitBytes(t *testing.T) {
	for _, g := range wrongGroves(t) {
		all := headersOf(g.store)
		c := beginningOf(g.store, 2)
		for _, number := range []int{2, 4, 6, 3, 5, 1} {
			for _, h := range []impl.Header{all[number], all[0], g.early(0), stray(byte(number))} {
				got := impl.SubmitBytes(c, impl.PackHeader(h).Bytes)
				wantClient(t, "SubmitBytes", got, submitAs(c, h))
				wantClient(t, "SubmitHeader", impl.SubmitHeader(c, h), submitAs(c, h))
			}
			c = impl.SubmitBytes(c, impl.PackHeader(all[number]).Bytes).Client
		}
		wantAll(t, "all that was handed in", c, picked(all, 0, 3, 4, 1, 2, 6, 5), nil, 3, 4)
	}
}

// Bytes that are none, or nearly one: their code is told, and none of the header's.
func TestP16SubmitBytesOfNone(t *testing.T) {
	g := wrongGroves(t)[0]
	for _, c := range []impl.Client{beginningOf(g.store, 2), clientOf(g.store, strays(6), 5, 3, 0), clientOf(fullOf(g.store), strays(6), 0)} {
		none := func(call string, data []byte, code int64) {
			t.Helper()
			if read := impl.UnpackHeader(data); read.Code != code {
				t.Fatalf("%s: UnpackHeader tells %d, the test wants %d", call, read.Code, code)
			}
			wantClient(t, "SubmitBytes of "+call, impl.SubmitBytes(c, data), impl.ClientResult{Code: code})
		}
		for _, n := range []int{1201, 1202, 5000} {
			none("too many", fill(n), impl.ErrMany)
		}
		for _, data := range [][]byte{nil, {}, {0}, {0x80}, {0xc0}, fill(100), fill(1200), leaf(1, 2, 3).bytes(), listOf(leaf(1)).bytes()} {
			none("no header", data, impl.ErrText)
		}
		for _, h := range []impl.Header{g.store.Entries[1].Header, stray(9), fullHeader()} {
			packed := impl.PackHeader(h).Bytes
			for cut := range packed {
				if cut%7 == 0 {
					none("a header that is cut", packed[:cut], impl.ErrText)
				}
			}
			none("a header without its first byte", packed[1:], impl.ErrText)
			none("a header and a byte", append(slices.Clone(packed), 0), impl.ErrText)
			none("a header twice", slices.Concat(packed, packed), impl.ErrText)
			for _, row := range headerFaultChanges() {
				if faulty := withChange(h, row.change); len(headerTree(faulty).bytes()) <= 1200 && faulty.Number >= 0 {
					none("a header with a fault", headerTree(faulty).bytes(), impl.ErrText)
				}
			}
		}
		// Behind a header that is read its own codes are told.
		wantClient(t, "SubmitBytes of one that is there", impl.SubmitBytes(c, impl.PackHeader(g.store.Entries[0].Header).Bytes), impl.ClientResult{Code: impl.ErrTaken})
		wantClient(t, "SubmitBytes of one that may not follow", impl.SubmitBytes(c, impl.PackHeader(g.early(0)).Bytes), impl.ClientResult{Code: impl.ErrRule})
	}
	six := clientOf(g.store, strays(6), 5, 3, 0)
	wantClient(t, "SubmitBytes of a seventh", impl.SubmitBytes(six, impl.PackHeader(stray(9)).Bytes), impl.ClientResult{Code: impl.ErrFull})
}
