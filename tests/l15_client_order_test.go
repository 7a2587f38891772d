package tests

import (
	"bytes"
	"maps"
	"math/rand/v2"
	"slices"
	"strconv"
	"testing"

	"loop.example/g00383/impl"
)

// yard is a client told by numbers alone: of each header its parent's number, and the code that it has behind that one. It keeps what stands behind some numbers, the one that was asked last at the end.
type yard struct {
	ups     []int
	codes   map[int]int64
	entries []int
	orphans []int
	kept    []int
	size    int
}

func (y *yard) look(number int) {
	y.kept = append(slices.DeleteFunc(slices.Clone(y.kept), func(n int) bool { return n == number }), number)
	y.kept = y.kept[max(0, len(y.kept)-y.size):]
}

func (y *yard) join(number int) int64 {
	code := y.codes[number]
	if code == impl.OK && len(y.entries) == 24 {
		code = impl.ErrFull
	}
	if code == impl.OK {
		y.look(y.ups[number])
		y.entries = append(slices.Clone(y.entries), number)
	}
	return code
}

func (y *yard) submit(number int) int64 {
	isReady := func(n int) bool { return slices.Contains(y.entries, y.ups[n]) }
	switch {
	case slices.Contains(y.entries, number) || slices.Contains(y.orphans, number):
		return impl.ErrTaken
	case !isReady(number) && len(y.orphans) == 6:
		return impl.ErrFull
	case !isReady(number):
		y.orphans = append(slices.Clone(y.orphans), number)
		return impl.OK
	}
	code := y.join(number)
	for at := slices.IndexFunc(y.orphans, isReady); code == impl.OK && at >= 0; at = slices.IndexFunc(y.orphans, isReady) {
		ready := y.orphans[at]
		y.orphans = slices.Delete(slices.Clone(y.orphans), at, at+1)
		y.join(ready)
	}
	return code
}

// places are those of what is kept among the entries.
func (y *yard) places() []int64 {
	var places []int64
	for _, number := range y.kept {
		places = append(places, int64(slices.Index(y.entries, number)))
	}
	return places
}

// family is a yard's headers, and the snapshots behind those that may follow.
type family struct {
	config  impl.Config
	headers []impl.Header
	snaps   []impl.Snap
	ups     []int
	codes   map[int]int64
}

func familyOf(g grove) family {
	f := family{config: g.store.Config, headers: headersOf(g.store), snaps: g.snaps, codes: map[int]int64{}}
	for _, e := range g.store.Entries {
		f.ups = append(f.ups, int(e.Up))
	}
	return f
}

// with is the family and one more, which is not to follow the one of that number: it has that code there.
func (f family) with(h impl.Header, up int, code int64) family {
	f.codes = maps.Clone(f.codes)
	f.codes[len(f.headers)] = code
	f.headers, f.ups = append(slices.Clone(f.headers), h), append(slices.Clone(f.ups), up)
	return f
}

// begin is a client of the first header alone.
func (f family) begin(size int) (impl.Client, *yard) {
	c := impl.NewClient(f.config, f.headers[0], int64(size)).Client
	return c, &yard{ups: f.ups, codes: f.codes, entries: []int{0}, size: size}
}

// wantYard: a client has what the yard has, in its order.
func (f family) wantYard(t *testing.T, call string, c impl.Client, y *yard) {
	t.Helper()
	entries := slices.EqualFunc(c.Store.Entries, picked(f.headers, y.entries...), func(e impl.Entry, h impl.Header) bool { return equalHeaders(e.Header, h) })
	orphans := slices.EqualFunc(c.Orphans, picked(f.headers, y.orphans...), equalHeaders)
	kept := c.Cache.Size == int64(y.size) && slices.Equal(keptPlaces(c.Cache), y.places())
	for at, number := range y.kept {
		kept = kept && equalSnaps(c.Cache.Kept[at].Snap, f.snaps[number])
	}
	if !entries || !orphans || !kept {
		t.Fatalf("%s: want the numbers %v, %v wait, and %v kept: %+v", call, y.entries, y.orphans, y.kept, c)
	}
}

// submit hands one in, and holds what comes of it against the yard.
func (f family) submit(t *testing.T, call string, c impl.Client, y *yard, number int) impl.Client {
	t.Helper()
	before := len(y.entries)
	code := y.submit(number)
	got := impl.SubmitHeader(c, f.headers[number])
	if code != impl.OK {
		wantClient(t, call, got, impl.ClientResult{Code: code})
		f.wantYard(t, call, c, y)
		return c
	}
	if got.Code != impl.OK || got.Joined != int64(len(y.entries)-before) {
		t.Fatalf("%s: code %d, and %d joined, want %d", call, got.Code, got.Joined, len(y.entries)-before)
	}
	f.wantYard(t, call, got.Client, y)
	return got.Client
}

// orders are all orders of the numbers from 1 to count.
func orders(count int) [][]int {
	list := [][]int{nil}
	for number := 1; number <= count; number++ {
		var longer [][]int
		for _, order := range list {
			for at := range len(order) + 1 {
				longer = append(longer, slices.Insert(slices.Clone(order), at, number))
			}
		}
		list = longer
	}
	return list
}

// familyShapes are all ways in which so many may stand behind each other and a first one.
func familyShapes(count int) [][]int {
	list := [][]int{nil}
	for at := range count {
		var longer [][]int
		for _, ups := range list {
			for up := range at + 1 {
				longer = append(longer, append(slices.Clone(ups), up))
			}
		}
		list = longer
	}
	return list
}

// hashesOf are those of all entries, sorted.
func hashesOf(s impl.Store) [][]byte {
	var hashes [][]byte
	for _, e := range s.Entries {
		hashes = append(hashes, e.Hash)
	}
	slices.SortFunc(hashes, bytes.Compare)
	return hashes
}

// wantAllThere: the entries are those of a store, in whatever order, none waits, and the head is the same.
func wantAllThere(t *testing.T, call string, c impl.Client, s impl.Store) {
	t.Helper()
	if !equalLists(hashesOf(c.Store), hashesOf(s)) || len(c.Orphans) != 0 {
		t.Errorf("%s: not all is there: %+v", call, c)
	}
	wantHeader(t, "HeadIn "+call, impl.HeadIn(c), impl.OK, s.Entries[rankedAs(s)[0]].Header)
	if fault := impl.ClientFault(c); fault != impl.OK {
		t.Errorf("%s: the client has the fault %d", call, fault)
	}
}

// wantBorne: each entry is signed by one of the signers ahead of it, and follows by the rules.
func wantBorne(t *testing.T, call string, c impl.Client) {
	t.Helper()
	s := c.Store
	for at, e := range s.Entries[1:] {
		up := impl.SnapAt(s, e.Up)
		if up.Code != impl.OK || !holds(up.Snap.Signers, e.Header.Signer) || !impl.SealRight(e.Header) {
			t.Errorf("%s: the entry at %d is not borne by one of %+v", call, at+1, up.Snap.Signers)
		}
		parent := s.Entries[e.Up].Header
		if impl.CheckNext(s.Config, up.Snap, parent, e.Header) != impl.OK || checkNextAs(s.Config, up.Snap, parent, e.Header) != impl.OK {
			t.Errorf("%s: the entry at %d may not follow", call, at+1)
		}
	}
}

// Every order of four, of every shape, with caches of each size: the same entries and the same head.
func TestP16EveryOrderOfFour(t *testing.T) {
	for i, ups := range familyShapes(4) {
		g := groveOf(t, uint64(500+i), modes()[i%2], ups...)
		f := familyOf(g)
		for j, order := range orders(4) {
			call := strconv.Itoa(i) + " in the order " + strconv.Itoa(j)
			for size := range 6 {
				c, y := f.begin(size)
				for _, number := range order {
					c = f.submit(t, call, c, y, number)
				}
				wantAllThere(t, call, c, g.store)
			}
		}
	}
}

// The same ones in every order with every size, in both Modes; what is there is borne by those ahead of it.
func TestP16EveryOrderOfFourWithEverySize(t *testing.T) {
	for _, mode := range modes() {
		g := groveOf(t, 550, mode, 0, 1, 1, 2)
		f := familyOf(g)
		for _, order := range orders(4) {
			for size := range 6 {
				c, y := f.begin(size)
				for _, number := range order {
					c = f.submit(t, "each order with each size", c, y, number)
				}
				wantAllThere(t, "each order with each size", c, g.store)
			}
			wantBorne(t, "each order", familyIn(t, f, order))
		}
	}
}

func familyIn(t *testing.T, f family, order []int) impl.Client {
	t.Helper()
	c, y := f.begin(3)
	for _, number := range order {
		c = f.submit(t, "an order", c, y, number)
	}
	return c
}

// Many orders of six, with caches of each size; between them it is asked, and taken out of the cache, whatever.
func TestP16ManyOrdersOfSix(t *testing.T) {
	r := rand.New(rand.NewPCG(155, 1))
	waited := map[int]int{}
	for i, ups := range shapes(6) {
		for _, mode := range modes() {
			g := groveOf(t, uint64(560+i), mode, ups...)
			f := familyOf(g)
			for size := range 6 {
				for range 5 {
					c, y := f.begin(size)
					for _, at := range r.Perm(6) {
						c = f.submit(t, "six", c, y, at+1)
						waited[len(c.Orphans)]++
						if r.IntN(2) == 0 {
							c = f.ask(t, r, c, y)
						}
					}
					wantAllThere(t, "six", c, g.store)
					wantBorne(t, "six", c)
				}
			}
		}
	}
	for count := range 6 {
		if waited[count] < 5 {
			t.Errorf("%d waited %d times", count, waited[count])
		}
	}
}

// ask asks something of a client; neither its headers nor its head change.
func (f family) ask(t *testing.T, r *rand.Rand, c impl.Client, y *yard) impl.Client {
	t.Helper()
	head := impl.HeadIn(c)
	then := c
	if number := r.IntN(len(f.headers)); r.IntN(2) == 0 {
		got := impl.SnapIn(c, hashAs(f.headers[number], f.headers[number].Seal))
		if !slices.Contains(y.entries, number) {
			wantClientSnap(t, "SnapIn of one that is not there", got, impl.ClientSnap{Code: impl.ErrNone})
			return c
		}
		y.look(number)
		if got.Code != impl.OK || !equalSnaps(got.Snap, f.snaps[number]) {
			t.Errorf("SnapIn of %d: %+v, want %+v", number, got, f.snaps[number])
		}
		then = got.Client
	} else if len(y.kept) > 0 {
		at := r.IntN(len(y.kept))
		y.kept = slices.Delete(slices.Clone(y.kept), at, at+1)
		then = impl.EvictIn(c, int64(at)).Client
	}
	f.wantYard(t, "what was asked", then, y)
	wantHeader(t, "HeadIn what was asked", impl.HeadIn(then), head.Code, head.Header)
	return then
}

// In all orders of six a line and a star: what waits, and how much.
func TestP16EveryOrderOfALineAndAStar(t *testing.T) {
	for i, ups := range [][]int{lineUps(6), starUps(6)} {
		g := groveOf(t, uint64(580+i), modes()[i], ups...)
		f := familyOf(g)
		for j, order := range orders(6) {
			if j%5 > 0 {
				continue
			}
			c, y := f.begin(j % 6)
			for _, number := range order {
				c = f.submit(t, "a line or a star", c, y, number)
				if i == 1 && len(c.Orphans) > 0 {
					t.Errorf("%d wait behind the first one", len(c.Orphans))
				}
			}
			wantAllThere(t, "a line or a star", c, g.store)
		}
	}
}

// wrongFamily has some that may not follow, some behind these, and some whose parent never comes.
func wrongFamily(t *testing.T, r *rand.Rand, g grove) family {
	t.Helper()
	f := familyOf(g)
	for range 3 {
		up := r.IntN(len(g.snaps))
		rows := followFaults(g, up)
		row := rows[r.IntN(len(rows))]
		h := g.draft(up, g.free(up)[r.IntN(len(g.free(up)))]).with(row.change, func(d *draft) { d.next.Receipts = randomBytes(r, 32) }).finished().next
		f = f.with(h, up, checkNextAs(f.config, g.snaps[up], f.headers[up], h))
		if f.codes[len(f.headers)-1] == impl.OK {
			t.Fatal("it may follow")
		}
		f = f.with(behindHeader(h, byte(up)), len(f.headers)-1, impl.ErrNone)
	}
	for _, h := range strays(6) {
		f = f.with(h, -1, impl.ErrNone)
	}
	return f
}

// Long runs of headers, right and wrong, again and again: each answer is what the numbers tell; what is there is borne, and what has a code changes nothing.
func TestP16ManyRuns(t *testing.T) {
	told, dropped := map[int64]int{}, 0
	for seed := range uint64(48) {
		r := rand.New(rand.NewPCG(156, seed))
		g := wrongGroves(t)[seed%4]
		f := wrongFamily(t, r, g)
		c, y := f.begin(int(seed) % 6)
		for range 60 {
			number, waiting, there := r.IntN(len(f.headers)), len(y.orphans), len(y.entries)
			if r.IntN(3) > 0 {
				number = 1 + r.IntN(len(g.snaps)-1)
			}
			before := cloneClient(c)
			told[impl.SubmitHeader(c, f.headers[number]).Code]++
			if !equalClients(before, c) {
				t.Fatal("the client that was told is another one")
			}
			c = f.submit(t, "a run", c, y, number)
			if joined := len(y.entries) - there; joined > 0 {
				dropped += waiting - len(y.orphans) - joined + 1
			}
			if r.IntN(4) == 0 {
				c = f.ask(t, r, c, y)
			}
		}
		wantBorne(t, "a run", c)
		if impl.ClientFault(c) != impl.OK {
			t.Errorf("a run: %+v", c)
		}
	}
	if dropped < 20 {
		t.Errorf("%d were dropped", dropped)
	}
	for _, code := range []int64{impl.OK, impl.ErrRule, impl.ErrSign, impl.ErrTaken, impl.ErrFull} {
		if told[code] < 5 {
			t.Errorf("the code %d was told %d times", code, told[code])
		}
	}
}

// Up to 24 entries, with some that wait all the time.
func TestP16FromOneEntryToAll(t *testing.T) {
	for seed := range uint64(8) {
		r := rand.New(rand.NewPCG(157, seed))
		mode := modes()[seed%2]
		g := groveOf(t, 600+seed, mode, someUps(seed, 28)...)
		f := familyOf(g)
		c, y := f.begin(int(seed) % 6)
		next := 1
		for len(y.entries) < 24 || len(y.orphans) > 0 {
			// Two that stand close to each other change their places, as long as there is room to wait.
			last := min(next+2+r.IntN(4), len(f.headers))
			if next == last {
				break
			}
			order := r.Perm(last - next)
			for _, at := range order {
				c = f.submit(t, "one of many", c, y, next+at)
			}
			next = last
		}
		if len(c.Store.Entries) != 24 {
			t.Errorf("there are %d", len(c.Store.Entries))
		}
		wantBorne(t, "all of many", c)
	}
}
