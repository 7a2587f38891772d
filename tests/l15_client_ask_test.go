package tests

import (
	"math"
	"math/rand/v2"
	"slices"
	"strconv"
	"testing"

	"loop.example/g00383/impl"
)

// wantSameHeadersIn: what was asked has changed neither the headers of a client nor its head.
func wantSameHeadersIn(t *testing.T, call string, before impl.Client, then impl.Client) {
	t.Helper()
	if !equalStores(before.Store, then.Store) || !slices.EqualFunc(before.Orphans, then.Orphans, equalHeaders) {
		t.Errorf("%s: the headers are other ones: %+v, and were %+v", call, then, before)
	}
	if fault := impl.ClientFault(then); fault != impl.OK {
		t.Errorf("%s: the client has the fault %d", call, fault)
	}
	head := impl.HeadIn(before)
	wantHeader(t, "HeadIn behind "+call, impl.HeadIn(then), head.Code, head.Header)
}

// snapInAs is what the chapter says that SnapIn is, for a client without a fault.
func snapInAs(c impl.Client, hash []byte) impl.ClientSnap {
	place := entryWith(c.Store, hash)
	if place < 0 {
		return impl.ClientSnap{Code: impl.ErrNone}
	}
	looked := lookAs(c.Store, c.Cache, int64(place))
	if looked.Code != impl.OK {
		return impl.ClientSnap{Code: looked.Code}
	}
	return impl.ClientSnap{Snap: looked.Snap, Client: withClient(c, func(c *impl.Client) { c.Cache = looked.Cache })}
}

func wantSnapIn(t *testing.T, call string, c impl.Client, hash []byte, code int64) impl.ClientSnap {
	t.Helper()
	want := snapInAs(c, hash)
	if want.Code != code {
		t.Fatalf("%s: by the chapter it is %d, the test wants %d", call, want.Code, code)
	}
	got := impl.SnapIn(c, hash)
	wantClientSnap(t, "SnapIn of "+call, got, want)
	if code == impl.OK {
		wantSameHeadersIn(t, "SnapIn of "+call, c, got.Client)
	}
	return got
}

// askedClients have each kind of cache that there is: of each Size, with one that is kept, some and as many as may be.
func askedClients(s impl.Store) []impl.Client {
	var clients []impl.Client
	for size := range int64(6) {
		for i, places := range [][]int64{nil, {0}, {4, 1}, {4, 2, 0, 5, 1}} {
			if int64(len(places)) <= size {
				clients = append(clients, clientOf(s, strays(int(size)+i%2), size, places...))
			}
		}
	}
	return clients
}

// A hash that is there: the snapshot, and what the cache holds then.
func TestP16SnapIn(t *testing.T) {
	for _, mode := range modes() {
		s := knownStore(mode)
		for _, c := range askedClients(s) {
			for place, e := range s.Entries {
				got := wantSnapIn(t, "one that is there", c, e.Hash, impl.OK)
				wantSnap(t, "SnapAt", impl.SnapAt(s, int64(place)), impl.OK, got.Snap)
				kept := append(slices.DeleteFunc(keptPlaces(c.Cache), func(at int64) bool { return at == int64(place) }), int64(place))
				kept = kept[max(0, len(kept)-int(c.Cache.Size)):]
				wantAll(t, "one that is there", got.Client, headersOf(s), c.Orphans, kept...)
			}
		}
	}
	for _, g := range someGroves(t, 9) {
		c := clientOf(g.store, strays(2), 4, 9)
		for place, x := range g.snaps {
			got := wantSnapIn(t, "one of many", c, g.store.Entries[place].Hash, impl.OK)
			if !equalSnaps(got.Snap, x) {
				t.Errorf("SnapIn of %d: %+v, want %+v", place, got.Snap, x)
			}
			c = got.Client
		}
	}
}

// Written out, one behind the other: what is held each time.
func TestP16SnapInWrittenOut(t *testing.T) {
	for _, mode := range modes() {
		s := knownStore(mode)
		for size, steps := range map[int64][][]int64{
			0: {nil, nil, nil, nil, nil},
			1: {{4}, {4}, {1}, {0}, {4}},
			2: {{4}, {4}, {4, 1}, {1, 0}, {0, 4}},
			5: {{4}, {4}, {4, 1}, {4, 1, 0}, {1, 0, 4}},
		} {
			c := clientOf(s, strays(3), size)
			for i, place := range []int{4, 4, 1, 0, 4} {
				c = wantSnapIn(t, "what is written out", c, s.Entries[place].Hash, impl.OK).Client
				wantAll(t, "what is written out", c, headersOf(s), strays(3), steps[i]...)
			}
		}
	}
}

// One that waits, one whose parent waits, what a header is behind, and hashes of other lengths: there is none.
func TestP16SnapInOfNone(t *testing.T) {
	for _, mode := range modes() {
		s := strayedStore(mode)
		for _, c := range []impl.Client{clientOf(s, nil, 0), clientOf(s, strays(6), 5, 4, 0), clientOf(s, strays(1), 1, 5)} {
			hashes := [][]byte{nil, {}, fill(4), fill(31), fill(32), fill(33), fill(1201), make([]byte, 32), s.Entries[0].Header.Receipts, s.Entries[0].Header.Parent}
			for _, h := range append(strays(6), behindHeader(stray(0), 1)) {
				hashes = append(hashes, hashAs(h, h.Seal), h.Parent)
			}
			for _, e := range s.Entries {
				hashes = append(hashes, e.Hash[:31], append(slices.Clone(e.Hash), 0), flipped(e.Hash, 0), flipped(e.Hash, 255), hashAs(e.Header, []byte{1, 2, 3, 5}))
			}
			for _, hash := range hashes {
				wantSnapIn(t, "none", c, hash, impl.ErrNone)
			}
		}
	}
}

// One that may not follow, and one behind it: the code that its LookSnap has.
func TestP16SnapInOfWhatMayNotFollow(t *testing.T) {
	told := map[int64]int{}
	for _, g := range wrongGroves(t) {
		for _, row := range followFaults(g, 3) {
			wrong := len(g.store.Entries)
			s := putAs(g.store, 3, g.draft(3, g.free(3)[0]).with(row.change).finished().next)
			s = putAs(s, wrong, strayBehind(s.Entries[wrong], 1))
			for _, c := range []impl.Client{clientOf(s, nil, 0), clientOf(s, strays(2), 5, 3, 0)} {
				wantSnapIn(t, "one that may not follow", c, s.Entries[wrong].Hash, row.code)
				wantSnapIn(t, "one behind it", c, s.Entries[wrong+1].Hash, row.code)
				wantSnapIn(t, "its parent", c, s.Entries[3].Hash, impl.OK)
			}
			told[row.code]++
		}
	}
	for _, code := range []int64{impl.ErrRule, impl.ErrSign, impl.ErrForm, impl.ErrTaken} {
		if told[code] < 2 {
			t.Errorf("the code %d was told %d times", code, told[code])
		}
	}
}

// Each place that is held, those at the edges, and such as are none; all else is held on.
func TestP16EvictIn(t *testing.T) {
	for _, mode := range modes() {
		s := strayedStore(mode)
		for _, places := range [][]int64{nil, {0}, {5}, {4, 1}, {0, 1, 2}, {4, 2, 0, 5, 1}} {
			for _, size := range []int64{int64(len(places)), 5} {
				c := clientOf(s, strays(3), size, places...)
				for at := range places {
					got := impl.EvictIn(c, int64(at))
					left := slices.Delete(slices.Clone(places), at, at+1)
					want := withClient(c, func(c *impl.Client) { c.Cache.Kept = slices.Delete(c.Cache.Kept, at, at+1) })
					wantClient(t, "EvictIn", got, impl.ClientResult{Client: want})
					wantAll(t, "EvictIn", got.Client, headersOf(s), strays(3), left...)
					wantSameHeadersIn(t, "EvictIn", c, got.Client)
					wantHeld(t, "what was taken out", s, got.Client.Cache, places[at], false)
				}
				for _, none := range []int64{-1, int64(len(places)), int64(len(places)) + 1, 5, 6, 24, 1 << 32, -1 << 32, math.MinInt64, math.MaxInt64} {
					wantClient(t, "EvictIn of none", impl.EvictIn(c, none), impl.ClientResult{Code: impl.ErrRange})
				}
			}
		}
	}
}

// All are taken out one by one; what is gone can be asked again, and is the same.
func TestP16EvictInUntilNoneIsLeft(t *testing.T) {
	for _, mode := range modes() {
		s := knownStore(mode)
		c := clientOf(s, strays(6), 5, 4, 2, 0, 5, 1)
		for _, row := range []struct {
			at   int64
			left []int64
		}{{2, []int64{4, 2, 5, 1}}, {3, []int64{4, 2, 5}}, {0, []int64{2, 5}}, {1, []int64{2}}, {0, nil}} {
			c = impl.EvictIn(c, row.at).Client
			wantAll(t, "one by one", c, headersOf(s), strays(6), row.left...)
		}
		wantClient(t, "EvictIn of none", impl.EvictIn(c, 0), impl.ClientResult{Code: impl.ErrRange})
		for place := range s.Entries {
			_, x := snapAtAs(s, place)
			if got := wantSnapIn(t, "what is gone", c, s.Entries[place].Hash, impl.OK); !equalSnaps(got.Snap, x) {
				t.Errorf("what is gone is %+v, and was %+v", got.Snap, x)
			}
		}
	}
}

// The head of each kind of store, with ties of all kinds; orphans and the cache have no part in it.
func TestP16HeadIn(t *testing.T) {
	for i, s := range forkStores(t) {
		c := clientOf(s, strays(i%7), int64(i%6))
		wantHeader(t, "HeadIn", impl.HeadIn(c), impl.OK, s.Entries[rankedAs(s)[0]].Header)
		heavy := withChange(stray(99), func(h *impl.Header) { h.Hard, h.Number = 9, 1<<30 })
		c.Orphans = append(strays(i%6), heavy)
		wantHeader(t, "HeadIn beside a heavy orphan", impl.HeadIn(c), impl.OK, s.Entries[rankedAs(s)[0]].Header)
	}
	for _, mode := range modes() {
		s := knownStore(mode)
		for at, head := range []int{0, 1, 2, 2, 4, 4} {
			c := impl.Client{Store: impl.Store{Config: s.Config, Entries: s.Entries[:at+1]}, Cache: cacheOf(s, 1, 0)}
			wantHeader(t, "HeadIn what is known", impl.HeadIn(c), impl.OK, s.Entries[head].Header)
		}
	}
}

// Written out: the same weight, then the lower Number; the same Number, then the Hash that is ahead.
func TestP16HeadInOfTies(t *testing.T) {
	hashes := map[int]int{}
	for mark := range byte(30) {
		low := weighed(mark, sprout{0, 1}, sprout{1, 1}, sprout{0, 2})
		wantHeader(t, "HeadIn of two of one weight", impl.HeadIn(clientOf(low, strays(2), 2)), impl.OK, low.Entries[3].Header)
		even := weighed(mark, sprout{0, 2}, sprout{0, 1}, sprout{0, 2})
		head := 1
		if impl.IsAhead(even.Entries[3].Hash, even.Entries[1].Hash) {
			head = 3
		}
		wantHeader(t, "HeadIn of two of one weight and Number", impl.HeadIn(clientOf(even, nil, 0)), impl.OK, even.Entries[head].Header)
		hashes[head]++
		alone := weighed(mark)
		wantHeader(t, "HeadIn of one", impl.HeadIn(clientOf(alone, strays(6), 0)), impl.OK, alone.Entries[0].Header)
	}
	if hashes[1] < 5 || hashes[3] < 5 {
		t.Errorf("the heads were %v", hashes)
	}
}

// provingClient has a chain of three behind a first one, and a branch beside it; each says another list of receipts.
func provingClient(t *testing.T, mode int64) (impl.Client, map[int64][][]byte) {
	t.Helper()
	lists := [][][]byte{plainReceipts(3), nil, plainReceipts(10), {{5}}, evenReceipts(9, 60)}
	genesis := impl.GenesisOf(risingAddrs(3), receiptsRootAs(lists[0])).Header
	genesis.Number = 7
	g := planted(impl.Config{Mode: mode, Period: 1, Epoch: 50}, genesis)
	for at, up := range []int{0, 1, 0, 2} {
		d := g.draft(up, g.free(up)[at%2]).with(func(d *draft) { d.next.Receipts = receiptsRootAs(lists[at+1]) })
		g = g.grown(t, up, d.finished().next)
	}
	if canon := canonAs(g.store); !slices.Equal(canon, []int64{0, 1, 2, 4}) {
		t.Fatalf("the chain is %v", canon)
	}
	return clientOf(g.store, strays(3), 2, 1, 3), map[int64][][]byte{7: lists[0], 8: lists[1], 9: lists[2], 10: lists[4]}
}

// What is there is shown, and what is not is shown not to be, of each number in the chain.
func TestP16ReceiptIn(t *testing.T) {
	for _, mode := range modes() {
		c, lists := provingClient(t, mode)
		for number, list := range lists {
			for _, index := range insideIndexes() {
				got := impl.ReceiptIn(c, number, index, receiptProofAs(list, index))
				wantTrie(t, "ReceiptIn "+strconv.FormatInt(number, 10), got, receiptShownAs(list, index))
			}
			for _, index := range outsideIndexes() {
				wantTrie(t, "ReceiptIn of no index", impl.ReceiptIn(c, number, index, receiptProofAs(list, 0)), impl.TrieResult{Code: impl.ErrRange})
			}
		}
	}
}

// Numbers ahead of the chain, behind the head, below 0, and far away: there is none, whatever is shown.
func TestP16ReceiptInOfNumbers(t *testing.T) {
	for _, mode := range modes() {
		c, lists := provingClient(t, mode)
		for _, number := range []int64{6, 11, 0, 1, 3, -1, -7, 7 + 1<<32, 7 - 1<<32, topNumber, topNumber + 1, math.MinInt64, math.MaxInt64} {
			for _, list := range lists {
				for _, index := range []int64{0, 2, 9999, -1, 10000} {
					for _, nodes := range [][][]byte{receiptProofAs(list, max(0, min(index, 9999))), nil, {nil}, make([][]byte, 15)} {
						wantTrie(t, "ReceiptIn of no number", impl.ReceiptIn(c, number, index, nodes), impl.TrieResult{Code: impl.ErrNone})
					}
				}
			}
		}
	}
	// A Number that only a side branch has is none of the chain, and that of the chain is asked, not that of the branch.
	long := weighed(3, sprout{0, 9}, sprout{0, 1}, sprout{2, 1}, sprout{3, 1})
	c := clientOf(long, nil, 0)
	for _, number := range []int64{302, 303} {
		wantTrie(t, "ReceiptIn of a side branch", impl.ReceiptIn(c, number, 0, nil), impl.TrieResult{Code: impl.ErrNone})
	}
	for _, mode := range modes() {
		c, lists := provingClient(t, mode)
		if beside := c.Store.Entries[3].Header; beside.Number != 8 {
			t.Fatalf("the branch has the Number %d", beside.Number)
		}
		wantTrie(t, "ReceiptIn of the branch", impl.ReceiptIn(c, 8, 0, receiptProofAs([][]byte{{5}}, 0)), impl.TrieResult{Code: impl.ErrSign})
		wantTrie(t, "ReceiptIn of the chain", impl.ReceiptIn(c, 8, 0, receiptProofAs(lists[8], 0)), impl.TrieResult{})
	}
}

// Every code that CheckReceipt tells of a root that is one: the bounds, too many, none, wrong hashes, what is no node.
func TestP16ReceiptInOfProofs(t *testing.T) {
	for _, mode := range modes() {
		c, lists := provingClient(t, mode)
		list := lists[9]
		right := receiptProofAs(list, 4)
		if len(right) < 2 {
			t.Fatalf("the proof has %d nodes", len(right))
		}
		for _, row := range []struct {
			call   string
			number int64
			index  int64
			nodes  [][]byte
			code   int64
		}{
			{"a node of no bytes", 9, 4, [][]byte{{}}, impl.ErrSign},
			{"nil for a node", 9, 4, [][]byte{nil}, impl.ErrSign},
			{"a node of no bytes behind the first one", 9, 4, [][]byte{right[0], {}}, impl.ErrSign},
			{"a node of no bytes behind all", 9, 4, append(slices.Clone(right), nil), impl.ErrMany},
			{"no nodes", 9, 4, nil, impl.ErrNone},
			{"no nodes, not nil", 9, 4, [][]byte{}, impl.ErrNone},
			{"a node too few", 9, 4, right[:len(right)-1], impl.ErrNone},
			{"a node too many", 9, 4, append(slices.Clone(right), right[0]), impl.ErrMany},
			{"15 nodes", 9, 4, slices.Repeat([][]byte{right[0]}, 15), impl.ErrMany},
			{"601 bytes", 9, 4, [][]byte{fill(601)}, impl.ErrMany},
			{"another node", 9, 4, [][]byte{flipped(right[0], 9), right[1]}, impl.ErrSign},
			{"the proof of another block", 10, 4, right, impl.ErrSign},
			{"an index below 0", 9, -1, right, impl.ErrRange},
			{"an index above 9999", 9, 10000, right, impl.ErrRange},
			{"an index above 9999 and a node of no bytes", 9, 10000, [][]byte{nil}, impl.ErrRange},
			{"the root of no receipts is no node", 8, 0, [][]byte{{0x80}}, impl.ErrText},
			{"no receipts, and a node of no bytes", 8, 0, [][]byte{{}}, impl.ErrSign},
		} {
			wantTrie(t, "ReceiptIn of "+row.call, impl.ReceiptIn(c, row.number, row.index, row.nodes), impl.TrieResult{Code: row.code})
			root := c.Store.Entries[[]int{0, 1, 2, 4}[row.number-7]].Header.Receipts
			wantTrie(t, "CheckReceipt of "+row.call, impl.CheckReceipt(root, row.index, row.nodes), impl.TrieResult{Code: row.code})
		}
		wantTrie(t, "ReceiptIn of no receipts", impl.ReceiptIn(c, 8, 0, nil), impl.TrieResult{})
	}
	// What a first header says its root is may be the hash of whatever bytes.
	for _, row := range []struct {
		node []byte
		code int64
	}{{nil, impl.ErrText}, {[]byte{0x80}, impl.ErrText}, {[]byte{0xc0}, impl.ErrText}, {listOf(leaf(1), leaf(2), leaf(3)).bytes(), impl.ErrText}, {fill(600), impl.ErrText}} {
		genesis := impl.GenesisOf(risingAddrs(2), impl.KeccakOf(row.node).Bytes).Header
		c := impl.NewClient(rare(1), genesis, 1).Client
		wantTrie(t, "ReceiptIn of what is no node", impl.ReceiptIn(c, 0, 0, [][]byte{row.node}), impl.TrieResult{Code: row.code})
	}
}

// What is asked and what comes of it over long runs: nothing that is asked changes the headers or the head.
func TestP16WhatIsAskedChangesNoHeaders(t *testing.T) {
	r := rand.New(rand.NewPCG(158, 1))
	for i, g := range append(someGroves(t, 8), wrongGroves(t)...) {
		c := clientOf(g.store, strays(i%7), int64(i%6))
		for range 12 {
			before := cloneClient(c)
			then := c
			switch r.IntN(4) {
			case 0, 1:
				then = wantSnapIn(t, "one of many", c, g.store.Entries[r.IntN(len(g.snaps))].Hash, impl.OK).Client
			case 2:
				if len(c.Cache.Kept) > 0 {
					then = impl.EvictIn(c, r.Int64N(int64(len(c.Cache.Kept)))).Client
				}
			case 3:
				impl.ReceiptIn(c, g.snaps[0].Number+r.Int64N(3), r.Int64N(4), [][]byte{nil})
				impl.HeadIn(c)
			}
			if !equalClients(before, c) {
				t.Error("the client that was asked is another one")
			}
			wantSameHeadersIn(t, "what is asked", before, then)
			c = then
		}
	}
}
