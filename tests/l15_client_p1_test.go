package tests

import (
	"bytes"
	"math"
	"reflect"
	"slices"
	"testing"

	"loop.example/g00383/impl"
)

// clientArguments are of every kind that chapter 15 tells apart, with and without a fault.
func clientArguments(t *testing.T) []impl.Client {
	t.Helper()
	clients := []impl.Client{{}, {Store: knownStore(1)}, {Cache: impl.Cache{Size: 3}, Orphans: strays(2)}}
	for i, w := range smallHoldings(t) {
		if i%9 == 0 {
			clients = append(clients, impl.Client{Store: w.store, Cache: w.cache, Orphans: strays(i % 8)})
		}
	}
	for _, mode := range modes() {
		s := strayedStore(mode)
		base := clientOf(s, strays(6), 5, 4, 2, 0, 5, 1)
		for at := range 6 {
			for i, row := range orphanChanges(at) {
				if (i+at)%4 == 0 {
					clients = append(clients, withClient(base, func(c *impl.Client) { row.change(c, at) }))
				}
			}
			clients = append(clients, clientOf(s, strays(at), int64(at), []int64{4, 2, 0, 5, 1}[:at]...))
		}
		ready := headersOf(s)
		early := impl.Store{Config: s.Config, Entries: s.Entries[:1]}
		clients = append(clients, base, clientOf(early, picked(ready, 4, 7, 2, 5), 2, 0), clientOf(fullOf(s), strays(3), 1, 1), clientOf(s, strays(7), 1), clientOf(s, make([]impl.Header, 1<<10), 1))
	}
	for _, h := range headerArguments() {
		if len(h.Commits) < 1000 {
			clients = append(clients, clientOf(knownStore(2), []impl.Header{stray(1), h}, 1, 5))
		}
	}
	for _, g := range append(someGroves(t, 5)[:4], someGroves(t, 23)[:2]...) {
		clients = append(clients, clientOf(g.store, strays(4), 4, 5, 1))
	}
	return clients
}

// wanted is what a client is asked with, apart from the client.
type wanted struct {
	headers []impl.Header
	datas   [][]byte
	hashes  [][]byte
	numbers []int64
	proofs  [][][]byte
}

func wantedOf(c impl.Client) wanted {
	w := wanted{headers: headersFor(c.Store), hashes: hashesFor(c.Store), numbers: []int64{math.MinInt64, -1, 0, 1, 2, 3, 300, 9999, 10000, topNumber, math.MaxInt64}}
	// Not all of them, for there are many clients.
	w.hashes = w.hashes[:min(7, len(w.hashes))]
	w.headers = append(w.headers[:min(8, len(w.headers))], stray(1), stray(77), withChange(stray(78), func(h *impl.Header) { h.Hard = 10 }))
	for _, e := range c.Store.Entries[:min(2, len(c.Store.Entries))] {
		w.numbers = append(w.numbers, e.Header.Number, e.Header.Number+1)
	}
	for _, h := range c.Orphans[:min(2, len(c.Orphans))] {
		w.headers, w.hashes = append(w.headers, h), append(w.hashes, h.Parent)
	}
	if len(c.Store.Entries) == 1 {
		w.headers = append(w.headers, knownStore(c.Store.Config.Mode).Entries[1].Header)
	}
	for i, h := range w.headers {
		if i%3 == 0 {
			w.datas = append(w.datas, impl.PackHeader(h).Bytes)
		}
	}
	w.datas = append(w.datas, nil, []byte{0xc0}, fill(1200), fill(1201), fill(1<<12))
	list := plainReceipts(3)
	w.proofs = [][][]byte{nil, {}, {nil}, {{}}, {fill(600)}, {fill(601)}, make([][]byte, 15), receiptProofAs(list, 1), {{0x80}}}
	return w
}

type clientAnswers struct {
	Fault     int64
	New       []impl.ClientResult
	Submitted []impl.ClientResult
	Read      []impl.ClientResult
	Snap      []impl.ClientSnap
	Evicted   []impl.ClientResult
	Head      impl.HeaderResult
	Receipt   []impl.TrieResult
}

// askClient calls each function of chapter 15 with a client, and with what is told for it.
func askClient(c impl.Client, w wanted) clientAnswers {
	all := clientAnswers{Fault: impl.ClientFault(c), Head: impl.HeadIn(c)}
	for _, h := range w.headers {
		for _, size := range []int64{c.Cache.Size, 5, -1, math.MaxInt64} {
			all.New = append(all.New, impl.NewClient(c.Store.Config, h, size))
		}
		all.Submitted = append(all.Submitted, impl.SubmitHeader(c, h))
	}
	for _, data := range w.datas {
		all.Read = append(all.Read, impl.SubmitBytes(c, data))
	}
	for _, hash := range w.hashes {
		all.Snap = append(all.Snap, impl.SnapIn(c, hash))
	}
	for i, number := range w.numbers {
		all.Evicted = append(all.Evicted, impl.EvictIn(c, number))
		for j := range 2 {
			nodes, index := w.proofs[(4*i+5*j)%len(w.proofs)], w.numbers[(3*i+j)%len(w.numbers)]
			all.Receipt = append(all.Receipt, impl.ReceiptIn(c, number, index, nodes))
		}
	}
	return all
}

func askOneClient(c impl.Client) clientAnswers {
	return askClient(c, wantedOf(c))
}

// sameClientAnswers holds them against each other; nil and empty are the same.
func sameClientAnswers(a clientAnswers, b clientAnswers) bool {
	same := slices.EqualFunc(a.New, b.New, sameClientResult) && slices.EqualFunc(a.Submitted, b.Submitted, sameClientResult) && slices.EqualFunc(a.Read, b.Read, sameClientResult)
	same = same && slices.EqualFunc(a.Snap, b.Snap, sameClientSnap) && slices.EqualFunc(a.Evicted, b.Evicted, sameClientResult) && slices.EqualFunc(a.Receipt, b.Receipt, sameTrie)
	return same && a.Fault == b.Fault && a.Head.Code == b.Head.Code && equalHeaders(a.Head.Header, b.Head.Header)
}

// wantClientOr: a client without a fault, or nothing beside one of the codes.
func wantClientOr(t *testing.T, call string, at int, r impl.ClientResult, codes ...int64) {
	t.Helper()
	nothing := impl.ClientResult{Code: r.Code}
	if r.Code == impl.OK && (impl.ClientFault(r.Client) != impl.OK || r.Joined < 0) || r.Code != impl.OK && (!slices.Contains(codes, r.Code) || !reflect.DeepEqual(r, nothing)) {
		t.Errorf("%s at %d: %+v", call, at, r)
	}
}

func TestP1ClientAnswersAtEveryArgument(t *testing.T) {
	told, submitted := map[int64]bool{}, map[int64]bool{}
	for i, c := range clientArguments(t) {
		all := askOneClient(c)
		told[all.Fault] = true
		if code := clientFaultAs(c); all.Fault != code {
			t.Errorf("ClientFault at %d: %d, want %d", i, all.Fault, code)
		}
		only := func(codes ...int64) []int64 {
			if all.Fault != impl.OK {
				return []int64{all.Fault}
			}
			return codes
		}
		for _, r := range all.New {
			wantClientOr(t, "NewClient", i, r, impl.ErrForm, impl.ErrMany, impl.ErrRange, impl.ErrNone)
		}
		rules := only(impl.ErrForm, impl.ErrMany, impl.ErrRange, impl.ErrTaken, impl.ErrSign, impl.ErrRule, impl.ErrFull)
		for _, r := range all.Submitted {
			wantClientOr(t, "SubmitHeader", i, r, rules...)
			submitted[r.Code] = true
		}
		for _, r := range all.Read {
			wantClientOr(t, "SubmitBytes", i, r, append(rules, only(impl.ErrText)...)...)
		}
		for _, r := range all.Evicted {
			wantClientOr(t, "EvictIn", i, r, only(impl.ErrRange)...)
			if r.Joined != 0 {
				t.Errorf("EvictIn at %d: %d joined", i, r.Joined)
			}
		}
		for _, r := range all.Snap {
			wantClientOr(t, "SnapIn", i, impl.ClientResult{Code: r.Code, Client: r.Client}, only(impl.ErrNone, impl.ErrRule)...)
			if r.Code == impl.OK && impl.SnapFault(r.Snap) != impl.OK || r.Code != impl.OK && !equalSnaps(r.Snap, impl.Snap{}) {
				t.Errorf("SnapIn at %d: %+v", i, r)
			}
		}
		if code := all.Head.Code; code != all.Fault || code != impl.OK && !reflect.DeepEqual(all.Head, impl.HeaderResult{Code: code}) || code == impl.OK && impl.HeaderFault(all.Head.Header) != impl.OK {
			t.Errorf("HeadIn at %d: %+v", i, all.Head)
		}
		for _, r := range all.Receipt {
			codes := only(impl.ErrNone, impl.ErrRange, impl.ErrMany, impl.ErrSign, impl.ErrText)
			if r.Code != impl.OK && (!slices.Contains(codes, r.Code) || !sameTrie(r, impl.TrieResult{Code: r.Code})) {
				t.Errorf("ReceiptIn at %d: %+v", i, r)
			}
		}
	}
	for _, code := range []int64{impl.OK, impl.ErrForm, impl.ErrMany, impl.ErrRange, impl.ErrTaken, impl.ErrSign, impl.ErrState} {
		if !told[code] {
			t.Errorf("the code %d is never told of a client", code)
		}
	}
	for _, code := range []int64{impl.OK, impl.ErrForm, impl.ErrRange, impl.ErrTaken, impl.ErrRule, impl.ErrFull} {
		if !submitted[code] {
			t.Errorf("the code %d is never told of a header", code)
		}
	}
}

// roomyClient is the same client, in memory with more room than it shows.
func roomyClient(c impl.Client) impl.Client {
	return impl.Client{Store: roomyStore(c.Store), Cache: impl.Cache{Size: c.Cache.Size, Kept: roomyKept(c.Cache.Kept)}, Orphans: roomyHeaders(c.Orphans)}
}

// emptiedClient is the same client, with what is empty for what is nil.
func emptiedClient(c impl.Client) impl.Client {
	w := holding{c.Store, c.Cache}.emptied()
	orphans := append([]impl.Header{}, cloneHeaders(c.Orphans)...)
	for at := range orphans {
		emptied(&orphans[at])
	}
	return impl.Client{Store: w.store, Cache: w.cache, Orphans: orphans}
}

// wholeClient copies all that a client may reach, the room behind it too.
func wholeClient(c impl.Client) impl.Client {
	return impl.Client{Store: wholeStore(c.Store), Cache: wholeCache(c.Cache), Orphans: wholeHeaders(c.Orphans)}
}

func (w wanted) roomy() wanted {
	roomy := wanted{headers: roomyHeaders(w.headers), datas: allWithRoom(w.datas, 9), hashes: allWithRoom(w.hashes, 9), numbers: w.numbers}
	for _, nodes := range w.proofs {
		roomy.proofs = append(roomy.proofs, roomyReceipts(nodes))
	}
	return roomy
}

func (w wanted) whole() wanted {
	whole := wanted{headers: wholeHeaders(w.headers), datas: wholeLists(w.datas), hashes: wholeLists(w.hashes), numbers: w.numbers}
	for _, nodes := range w.proofs {
		whole.proofs = append(whole.proofs, wholeLists(nodes))
	}
	return whole
}

// fewClients are every so many of the arguments.
func fewClients(t *testing.T, every int) []impl.Client {
	t.Helper()
	var few []impl.Client
	for i, c := range clientArguments(t) {
		if i%every == 0 && len(c.Orphans) < 100 {
			few = append(few, c)
		}
	}
	return few
}

func TestP1ClientHangsOnTheArgumentsAlone(t *testing.T) {
	for i, c := range fewClients(t, 6) {
		first := askOneClient(c)
		if !reflect.DeepEqual(first, askOneClient(c)) {
			t.Errorf("the client at %d is answered otherwise another time", i)
		}
		for call, other := range map[string]impl.Client{"in other memory": cloneClient(c), "with room behind it": roomyClient(c), "with what is empty, not nil": emptiedClient(c)} {
			if !sameClientAnswers(first, askClient(other, wantedOf(c))) {
				t.Errorf("the client at %d is answered otherwise %s", i, call)
			}
		}
		if !sameClientAnswers(first, askClient(c, wantedOf(c).roomy())) {
			t.Errorf("the answers at %d hang on what is behind an argument", i)
		}
	}
}

// Asked in other company each is answered the same: nothing is kept but in the client that is told.
func TestP1ClientAnswersTheSameBehindOthers(t *testing.T) {
	s := strayedStore(impl.ModeTurns)
	early := impl.Store{Config: s.Config, Entries: s.Entries[:1]}
	waiting := clientOf(early, picked(headersOf(s), 4, 2, 5), 2)
	alone := clientOf(early, nil, 2)
	first, none := askOneClient(waiting), askOneClient(alone)
	for i, other := range fewClients(t, 5) {
		askOneClient(other)
		if i%4 == 0 && (!sameClientAnswers(first, askOneClient(waiting)) || !sameClientAnswers(none, askOneClient(alone))) {
			t.Errorf("behind the client at %d another one is answered otherwise", i)
		}
	}
	// What was handed in to one client waits in no other one.
	for range 3 {
		wantSubmitted(t, "one that two wait for", waiting, s.Entries[1].Header, impl.OK, 3)
		wantSubmitted(t, "one that nobody waits for", alone, s.Entries[1].Header, impl.OK, 1)
		wantSubmitted(t, "one that waits", alone, s.Entries[2].Header, impl.OK, 0)
	}
}

func TestP1ClientAnswersSideBySide(t *testing.T) {
	wantSideBySide(t, 8, func(i int) func() bool {
		g := groveOf(t, uint64(700+i), modes()[i%2], 0, 1, 1, 2, 0, 4)
		all := headersOf(g.store)
		c := clientOf(impl.Store{Config: g.store.Config, Entries: g.store.Entries[:1]}, picked(all, 6, 4, 3, 2), int64(i%6))
		joined, waits := submitAs(c, all[1]), submitAs(c, stray(byte(i)))
		hash := g.store.Entries[0].Hash
		snap := snapInAs(c, hash)
		return func() bool {
			same := impl.ClientFault(c) == impl.OK && sameClientResult(impl.SubmitHeader(c, all[1]), joined) && sameClientResult(impl.SubmitHeader(c, stray(byte(i))), waits)
			same = same && sameClientResult(impl.SubmitBytes(c, impl.PackHeader(all[1]).Bytes), joined) && sameClientSnap(impl.SnapIn(c, hash), snap)
			same = same && equalHeaders(impl.HeadIn(c).Header, all[0]) && impl.EvictIn(c, 0).Code == impl.ErrRange
			begun := impl.NewClient(g.store.Config, all[0], int64(i%6))
			return same && begun.Code == impl.OK && equalStores(begun.Client.Store, c.Store) && impl.ReceiptIn(c, g.snaps[0].Number+1, 0, nil).Code == impl.ErrNone
		}
	})
}

// Neither the client nor what is told for it is changed, nor what is behind them.
func TestP1ClientChangesNoArgument(t *testing.T) {
	for i, c := range fewClients(t, 3) {
		shown, told := roomyClient(c), wantedOf(c).roomy()
		// What a client holds is told as a header and as a hash too.
		for _, e := range shown.Store.Entries[:min(2, len(shown.Store.Entries))] {
			told.headers, told.hashes = append(slices.Clone(told.headers), e.Header), append(told.hashes, e.Hash)
		}
		before, beside := wholeClient(shown), told.whole()
		askClient(shown, told)
		if !reflect.DeepEqual(wholeClient(shown), before) || !reflect.DeepEqual(told.whole(), beside) {
			t.Errorf("what is told at %d, or what is behind it, was changed", i)
		}
	}
}

func spoilClient(c impl.Client) {
	spoilStore(c.Store)
	spoilCache(c.Cache)
	for _, h := range c.Orphans {
		spoilHeader(h)
	}
	spoil(c.Orphans, impl.Header{Number: 77})
}

// memoryOfClient are all bytes of a client, and of a snapshot beside it; each with the room behind it.
func memoryOfClient(x impl.Snap, c impl.Client) [][]byte {
	memory := append(memoryOfSnap(x), memoryOfStore(c.Store)...)
	for _, one := range c.Cache.Kept {
		memory = append(memory, memoryOfSnap(one.Snap)...)
	}
	for _, h := range c.Orphans {
		memory = append(memory, memoryOf(h)...)
	}
	return memory
}

// wantPartsApart spoils the lists of a client, one at a time; what was not spoiled yet has to be as it was.
func wantPartsApart(t *testing.T, call string, got impl.ClientSnap, want impl.ClientSnap) {
	t.Helper()
	c := got.Client
	spoilSnap(got.Snap)
	for at := range c.Orphans {
		spoil(c.Orphans[at].Signers, []byte{77})
		spoil(c.Orphans[at].Commits, []byte{77})
		if !slices.EqualFunc(c.Orphans[at+1:], want.Client.Orphans[at+1:], equalHeaders) {
			t.Errorf("%s: orphans are changed with the one at %d", call, at)
		}
	}
	spoil(c.Orphans, impl.Header{Number: 77})
	if !equalStores(c.Store, want.Client.Store) || !equalCaches(c.Cache, want.Client.Cache) {
		t.Errorf("%s: the store or the cache is changed with the orphans, or with the snapshot", call)
	}
	for at := range c.Cache.Kept {
		spoilSnap(c.Cache.Kept[at].Snap)
		if !slices.EqualFunc(c.Cache.Kept[at+1:], want.Client.Cache.Kept[at+1:], equalKept) {
			t.Errorf("%s: snapshots are changed with the one at %d", call, at)
		}
	}
	spoilCache(c.Cache)
	if !equalStores(c.Store, want.Client.Store) {
		t.Errorf("%s: the store is changed with the cache", call)
	}
	wantListsApart(t, call, c.Store, want.Client.Store)
}

// wantClientsApart: what was told is changed, the room behind all of it too; neither another answer nor another part of it is.
func wantClientsApart(t *testing.T, call string, ask func() impl.ClientSnap, want impl.ClientSnap) {
	t.Helper()
	one, two := ask(), ask()
	spoilSnap(one.Snap)
	spoilClient(one.Client)
	wantClientSnap(t, call+" beside a changed answer", two, want)
	wantClientSnap(t, call+" behind a changed answer", ask(), want)
	wantPartsApart(t, call, ask(), want)
	last := ask()
	memory := memoryOfClient(last.Snap, last.Client)
	for changed := range memory {
		before := cloneLists(memory)
		spoil(memory[changed], byte(60+changed%100))
		for at := range memory {
			if at != changed && !bytes.Equal(memory[at], before[at]) {
				t.Errorf("%s: the bytes at %d are changed with those at %d", call, at, changed)
			}
		}
	}
}

// apartClient is a client, and what is handed in to it; each thing comes of it that may come.
type apartClient struct {
	client impl.Client
	header impl.Header
}

func apartClients(t *testing.T) []apartClient {
	t.Helper()
	var list []apartClient
	for _, mode := range modes() {
		s := knownStore(mode)
		all := headersOf(s)
		upTo := func(count int) impl.Store { return impl.Store{Config: s.Config, Entries: s.Entries[:count]} }
		early := strayBehind(s.Entries[1], 1)
		list = append(list,
			apartClient{clientOf(upTo(1), nil, 0), all[1]},
			apartClient{clientOf(upTo(3), strays(2), 1, 0), all[4]},
			apartClient{clientOf(upTo(4), nil, 3, 2, 3), all[4]},
			apartClient{clientOf(upTo(1), picked(all, 4, 2, 5), 3), all[1]},
			apartClient{clientOf(upTo(1), []impl.Header{early, all[4], stray(1), all[2]}, 5, 0), all[1]},
			apartClient{clientOf(upTo(1), []impl.Header{early, behindHeader(early, 1)}, 1, 0), all[1]},
			apartClient{clientOf(upTo(4), strays(1), 2, 1, 3), stray(9)},
			apartClient{clientOf(upTo(1), nil, 0), all[5]},
			apartClient{clientOf(s, strays(5), 5, 4, 2, 0, 5, 1), fullHeader()},
		)
	}
	g := fullGrove(t, impl.ModeCommits, 0, 21, 21)
	all := headersOf(g.store)
	return append(list, apartClient{clientOf(impl.Store{Config: g.store.Config, Entries: g.store.Entries[:22]}, nil, 2, 21), all[22]})
}

func (a apartClient) roomy() apartClient {
	return apartClient{roomyClient(a.client), roomyHeader(a.header)}
}

// calls are all calls with a client whose answer has one, and what each is to answer.
func (a apartClient) calls() []struct {
	call string
	ask  func(a apartClient) impl.ClientSnap
	want impl.ClientSnap
} {
	type row = struct {
		call string
		ask  func(a apartClient) impl.ClientSnap
		want impl.ClientSnap
	}
	plain := func(r impl.ClientResult) impl.ClientSnap { return impl.ClientSnap{Code: r.Code, Client: r.Client} }
	submitted := submitAs(a.client, a.header)
	first := a.client.Store.Entries[0]
	rows := []row{
		{"SubmitHeader", func(a apartClient) impl.ClientSnap { return plain(impl.SubmitHeader(a.client, a.header)) }, plain(submitted)},
		{"SubmitBytes", func(a apartClient) impl.ClientSnap {
			return plain(impl.SubmitBytes(a.client, withRoom(impl.PackHeader(a.header).Bytes, 7)))
		}, plain(submitted)},
		{"NewClient", func(a apartClient) impl.ClientSnap {
			return plain(impl.NewClient(a.client.Store.Config, a.client.Store.Entries[0].Header, 3))
		}, impl.ClientSnap{Client: impl.Client{Store: firstAs(a.client.Store.Config, first.Header), Cache: impl.Cache{Size: 3}}}},
	}
	for place := range a.client.Store.Entries[:min(4, len(a.client.Store.Entries))] {
		hash := a.client.Store.Entries[place].Hash
		rows = append(rows, row{"SnapIn", func(a apartClient) impl.ClientSnap { return impl.SnapIn(a.client, a.client.Store.Entries[place].Hash) }, snapInAs(a.client, hash)})
	}
	for at := range a.client.Cache.Kept {
		want := withClient(a.client, func(c *impl.Client) { c.Cache = evictAs(c.Cache, int64(at)).Cache })
		rows = append(rows, row{"EvictIn", func(a apartClient) impl.ClientSnap { return plain(impl.EvictIn(a.client, int64(at))) }, impl.ClientSnap{Client: want}})
	}
	return rows
}

func TestP1ClientSharesNoMemory(t *testing.T) {
	for i, a := range apartClients(t) {
		roomy := a.roomy()
		before, beside := wholeClient(roomy.client), wholeHeader(roomy.header)
		for _, row := range a.calls() {
			wantClientsApart(t, row.call, func() impl.ClientSnap { return row.ask(roomy) }, row.want)
		}
		head := a.client.Store.Entries[rankedAs(a.client.Store)[0]].Header
		wantHeadersApart(t, "HeadIn", func() impl.HeaderResult { return impl.HeadIn(roomy.client) }, head)
		if !reflect.DeepEqual(wholeClient(roomy.client), before) || !reflect.DeepEqual(wholeHeader(roomy.header), beside) {
			t.Errorf("the client at %d, or its header, is changed with an answer", i)
		}
	}
}

func TestP1ClientReceiptsShareNoMemory(t *testing.T) {
	for _, mode := range modes() {
		plain, lists := provingClient(t, mode)
		for number, list := range lists {
			for index := range list {
				c, nodes := roomyClient(plain), roomyReceipts(receiptProofAs(list, int64(index)))
				before, beside := wholeClient(c), wholeLists(nodes)
				wantBytesApart(t, "ReceiptIn", func() []byte { return impl.ReceiptIn(c, number, int64(index), nodes).Value })
				if !reflect.DeepEqual(wholeClient(c), before) || !reflect.DeepEqual(wholeLists(nodes), beside) {
					t.Error("an argument is changed with an answer")
				}
				got := impl.ReceiptIn(c, number, int64(index), nodes)
				spoilClient(c)
				for _, node := range nodes {
					spoil(node, 77)
				}
				wantTrie(t, "ReceiptIn, its arguments changed since", got, foundAs(list[index]...))
			}
		}
	}
}

func TestP1ClientAnswersDoNotFollowTheirArguments(t *testing.T) {
	for _, plain := range apartClients(t) {
		for _, row := range plain.calls() {
			a := apartClient{cloneClient(plain.client), cloneHeader(plain.header)}
			got := row.ask(a)
			spoilClient(a.client)
			spoilHeader(a.header)
			wantClientSnap(t, row.call+", its arguments changed since", got, row.want)
		}
		a := cloneClient(plain.client)
		head := impl.HeadIn(a)
		spoilClient(a)
		wantHeader(t, "HeadIn, its argument changed since", head, impl.OK, plain.client.Store.Entries[rankedAs(plain.client.Store)[0]].Header)
	}
}

// Arguments that share all the memory that they can: what is told of them comes apart.
func TestP1ClientOfOneMemoryComesApart(t *testing.T) {
	for _, mode := range modes() {
		w := entwinedHolding(t, mode)
		_, next := entwinedStore(t, mode)
		// The orphans share all with each other, with the store and with what is handed in.
		lone := w.store.Entries[1].Header
		lone.Parent, lone.Seal = w.store.Entries[2].Header.Receipts, next.Seal
		child := lone
		child.Number = 9
		next.Parent = w.store.Entries[3].Hash
		a := apartClient{impl.Client{Store: w.store, Cache: w.cache, Orphans: []impl.Header{lone, child}}, next}
		wantClientCode(t, "a client of one memory", a.client, impl.OK)
		plain := apartClient{cloneClient(a.client), cloneHeader(a.header)}
		if code := submitAs(plain.client, plain.header).Code; code != impl.OK {
			t.Fatalf("what is handed in has the code %d", code)
		}
		for _, row := range plain.calls() {
			wantClientsApart(t, row.call, func() impl.ClientSnap { return row.ask(a) }, row.want)
		}
		// An orphan handed in beside itself, nearly.
		again := apartClient{a.client, lone}
		again.header.Number = 10
		plain.header = cloneHeader(again.header)
		wantClientsApart(t, "SubmitHeader of one that waits", func() impl.ClientSnap {
			r := impl.SubmitHeader(again.client, again.header)
			return impl.ClientSnap{Code: r.Code, Client: r.Client}
		}, impl.ClientSnap{Client: submitAs(plain.client, plain.header).Client})
		if !equalClients(a.client, plain.client) {
			t.Error("an argument that shares memory is changed with an answer")
		}
	}
}
