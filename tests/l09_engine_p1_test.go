package tests

import (
	"bytes"
	"reflect"
	"slices"
	"testing"

	"loop.example/g00383/impl"
)

// ruleDrafts are such as may follow, and one with each fault; finished, all of them.
func ruleDrafts() []draft {
	var drafts []draft
	for at, d := range goodDrafts() {
		if at%5 == 0 {
			drafts = append(drafts, d.finished())
		}
	}
	eachFaulty(func(d draft, rows []nextFault) {
		for _, row := range rows {
			drafts = append(drafts, d.with(row.change).finished())
		}
	})
	return drafts
}

// strangeDrafts hold whatever may be told, in whatever company.
func strangeDrafts() []draft {
	configs := []impl.Config{{}, rare(1), often(2), {Mode: 1, Period: 100, Epoch: 1}, {Mode: -1, Period: -1, Epoch: -1}}
	snaps, headers := snapArguments(), headerArguments()
	drafts := []draft{{}}
	for i, x := range snaps {
		for j := i % 6; j < len(headers); j += 6 {
			other := headers[(i+3*j)%len(headers)]
			drafts = append(drafts, draft{config: configs[(i+j)%len(configs)], snap: x, parent: other, next: headers[j]})
		}
	}
	return drafts
}

func ruleArguments() []draft {
	return append(ruleDrafts(), strangeDrafts()...)
}

type ruleAnswers struct {
	Check    []int64
	Applied  []impl.SnapResult
	Made     []impl.HeaderResult
	First    []impl.HeaderResult
	Replayed []impl.SnapResult
}

// askRules calls each function of chapter 9 with what each draft holds.
func askRules(drafts []draft) ruleAnswers {
	var all ruleAnswers
	for _, d := range drafts {
		c, x, parent, h := d.config, d.snap, d.parent, d.next
		all.Check = append(all.Check, impl.CheckNext(c, x, parent, h))
		all.Applied = append(all.Applied, impl.ApplyNext(c, x, h))
		all.Made = append(all.Made, impl.MakeNext(c, x, parent, h.Signer, h.Target, true), impl.MakeNext(c, x, parent, h.Signer, h.Target, false))
		all.First = append(all.First, impl.GenesisOf(x.Signers, parent.Receipts), impl.GenesisOf(h.Signers, h.Receipts))
		for _, list := range [][]impl.Header{nil, {h}, {h, h}, {parent, h}} {
			all.Replayed = append(all.Replayed, impl.ReplayAll(c, parent, list), impl.ReplayAll(c, h, list))
		}
	}
	return all
}

func sameSnapResult(a impl.SnapResult, b impl.SnapResult) bool {
	return a.Code == b.Code && equalSnaps(a.Snap, b.Snap)
}

func sameHeaderResult(a impl.HeaderResult, b impl.HeaderResult) bool {
	return a.Code == b.Code && equalHeaders(a.Header, b.Header)
}

// sameRuleAnswers holds them against each other; nil and empty are the same.
func sameRuleAnswers(a ruleAnswers, b ruleAnswers) bool {
	headers := slices.EqualFunc(a.Made, b.Made, sameHeaderResult) && slices.EqualFunc(a.First, b.First, sameHeaderResult)
	snaps := slices.EqualFunc(a.Applied, b.Applied, sameSnapResult) && slices.EqualFunc(a.Replayed, b.Replayed, sameSnapResult)
	return slices.Equal(a.Check, b.Check) && headers && snaps
}

// wantHeaderOr: a header without a fault, or nothing beside one of the codes.
func wantHeaderOr(t *testing.T, call string, at int, r impl.HeaderResult, codes ...int64) {
	t.Helper()
	nothing := impl.HeaderResult{Code: r.Code}
	if r.Code == impl.OK && impl.HeaderFault(r.Header) != impl.OK || r.Code != impl.OK && (!slices.Contains(codes, r.Code) || !reflect.DeepEqual(r, nothing)) {
		t.Errorf("%s at %d: %+v", call, at, r)
	}
}

func TestP1RulesAnswerAtEveryArgument(t *testing.T) {
	all := askRules(ruleArguments())
	codes := []int64{impl.OK, impl.ErrForm, impl.ErrMany, impl.ErrRange, impl.ErrNone, impl.ErrTaken, impl.ErrSign, impl.ErrRule, impl.ErrState}
	for _, code := range codes {
		if !slices.Contains(all.Check, code) {
			t.Errorf("CheckNext never tells %d", code)
		}
	}
	for i, code := range all.Check {
		if !slices.Contains(codes, code) {
			t.Errorf("CheckNext at %d: %d", i, code)
		}
	}
	faults := []int64{impl.ErrForm, impl.ErrMany, impl.ErrRange, impl.ErrNone, impl.ErrRule, impl.ErrTaken}
	for i, r := range all.Applied {
		wantSnapOrCode(t, "ApplyNext", i, r, faults...)
	}
	for i, r := range all.Made {
		wantHeaderOr(t, "MakeNext", i, r, append(faults, impl.ErrState)...)
	}
	for i, r := range all.First {
		wantHeaderOr(t, "GenesisOf", i, r, impl.ErrNone, impl.ErrMany, impl.ErrForm)
	}
	for i, r := range all.Replayed {
		wantSnapOrCode(t, "ReplayAll", i, r, append(faults, impl.ErrSign, impl.ErrState)...)
	}
}

// roomyDraft is the same, in memory with more room than it shows.
func roomyDraft(d draft) draft {
	d.snap, d.parent, d.next = roomySnap(d.snap), roomyHeader(d.parent), roomyHeader(d.next)
	return d
}

// smallDrafts are the arguments without the longest ones.
func smallDrafts() []draft {
	return slices.DeleteFunc(ruleArguments(), func(d draft) bool {
		return max(len(d.snap.Votes), len(d.parent.Commits), len(d.next.Commits)) > 1000
	})
}

func TestP1RulesHangOnTheArgumentsAlone(t *testing.T) {
	first := askRules(ruleArguments())
	if !reflect.DeepEqual(first, askRules(ruleArguments())) {
		t.Error("the same arguments are answered otherwise another time")
	}
	var roomy []draft
	for _, d := range smallDrafts() {
		roomy = append(roomy, roomyDraft(d))
	}
	if !sameRuleAnswers(askRules(smallDrafts()), askRules(roomy)) {
		t.Error("an answer hangs on what is behind an argument")
	}
}

// Asked in another order, and in other company, each is answered the same.
func TestP1RulesAnswerTheSameBehindOthers(t *testing.T) {
	drafts := ruleDrafts()
	first := askRules(drafts).Check
	for at, d := range slices.Backward(drafts) {
		if got := d.check(); got != first[at] {
			t.Errorf("CheckNext at %d, asked the other way around: %d, want %d", at, got, first[at])
		}
	}
	k := chainOf(t, 60, impl.ModeCommits, 5)
	_, made := makeNextAs(k.config, k.snaps[5], k.list[4], k.snaps[5].Signers[0], outsider(1), true)
	_, applied := applyNextAs(k.config, k.snaps[5], made)
	for _, other := range strangeDrafts() {
		askRules([]draft{other})
		wantHeader(t, "MakeNext behind another one", impl.MakeNext(k.config, k.snaps[5], k.list[4], k.snaps[5].Signers[0], outsider(1), true), impl.OK, made)
		wantSnap(t, "ApplyNext behind another one", impl.ApplyNext(k.config, k.snaps[5], made), impl.OK, applied)
		wantSnap(t, "ReplayAll behind another one", impl.ReplayAll(k.config, k.genesis, k.list), impl.OK, k.snaps[5])
		if impl.CheckNext(k.config, k.snaps[4], k.list[3], k.list[4]) != impl.OK {
			t.Error("CheckNext behind another one")
		}
	}
}

func TestP1RulesAnswerSideBySide(t *testing.T) {
	wantSideBySide(t, 10, func(i int) func() bool {
		k := chainOf(t, uint64(70+i), modes()[i%2], 12+i)
		last := len(k.list)
		x, parent := k.snaps[last-1], k.parentOf(last-1)
		_, made := makeNextAs(k.config, x, parent, x.Signers[0], outsider(i), i%3 == 0)
		first := impl.Header{Parent: make([]byte, 32), Hard: 1, Signers: risingAddrs(1 + i%7), Receipts: fill(32), Signer: addr(1)}
		return func() bool {
			all := impl.ReplayAll(k.config, k.genesis, k.list)
			same := all.Code == impl.OK && equalSnaps(all.Snap, k.snaps[last]) && impl.CheckNext(k.config, x, parent, k.list[last-1]) == impl.OK
			same = same && equalSnaps(impl.ApplyNext(k.config, x, k.list[last-1]).Snap, k.snaps[last])
			same = same && equalHeaders(impl.MakeNext(k.config, x, parent, x.Signers[0], outsider(i), i%3 == 0).Header, made)
			return same && equalHeaders(impl.GenesisOf(risingAddrs(1+i%7), fill(32)).Header, first)
		}
	})
}

func TestP1RulesChangeNoArgument(t *testing.T) {
	for i, d := range smallDrafts() {
		shown := roomyDraft(d)
		snap, parent, next := wholeSnap(shown.snap), wholeHeader(shown.parent), wholeHeader(shown.next)
		askRules([]draft{shown})
		if !reflect.DeepEqual(wholeSnap(shown.snap), snap) || !reflect.DeepEqual(wholeHeader(shown.parent), parent) || !reflect.DeepEqual(wholeHeader(shown.next), next) {
			t.Errorf("what is told at %d, or what is behind it, was changed", i)
		}
	}
	for i, list := range roomySigners() {
		before, receipts := wholeLists(list), withRoom(fill(32), 7)
		impl.GenesisOf(list, receipts)
		if !reflect.DeepEqual(wholeLists(list), before) || !bytes.Equal(receipts[:cap(receipts)], withRoom(fill(32), 7)[:cap(receipts)]) {
			t.Errorf("the list at %d, the receipts, or what is behind them, was changed", i)
		}
	}
	for i, k := range someChains(t)[:4] {
		list := roomyHeaders(k.list)
		genesis, headers := roomyHeader(k.genesis), wholeHeaders(list)
		before := wholeHeader(genesis)
		impl.ReplayAll(k.config, genesis, list)
		if !reflect.DeepEqual(wholeHeader(genesis), before) || !reflect.DeepEqual(wholeHeaders(list), headers) {
			t.Errorf("the headers of the chain at %d, or what is behind them, were changed", i)
		}
	}
}

// roomyHeaders are the same headers, in memory with more room than it shows.
func roomyHeaders(list []impl.Header) []impl.Header {
	var roomy []impl.Header
	for _, h := range list {
		roomy = append(roomy, roomyHeader(h))
	}
	return withRoom(roomy, impl.Header{Number: 7})
}

// wholeHeaders copies all that a list of headers may reach, the room behind it too.
func wholeHeaders(list []impl.Header) []impl.Header {
	var whole []impl.Header
	for _, h := range list[:cap(list)] {
		whole = append(whole, wholeHeader(h))
	}
	return whole
}

// apartDrafts are such as make ApplyNext and MakeNext do each thing that they may do.
func apartDrafts() []draft {
	var drafts []draft
	for _, mode := range modes() {
		for _, x := range []impl.Snap{busySnap(), someSnap(), plainSnap(1), votedBy(plainSnap(3), 1, outsider(1), true), votedBy(plainSnap(6), 3, addr(1), false)} {
			for _, signer := range [][]byte{x.Signers[0], x.Signers[len(x.Signers)/2], x.Signers[len(x.Signers)-1]} {
				drafts = append(drafts, draftOf(mode, x, signer, true).finished())
				for _, voting := range []func(d *draft){
					func(d *draft) {},
					func(d *draft) { d.next.Target, d.next.Nonce = outsider(1), impl.NonceAdd },
					func(d *draft) { d.next.Target, d.next.Nonce = addr(1), impl.NonceDrop },
				} {
					drafts = append(drafts, draftOf(mode, x, signer, false).with(voting).finished())
				}
			}
		}
	}
	return drafts
}

func TestP1RulesShareNoMemory(t *testing.T) {
	for i, plain := range apartDrafts() {
		d := roomyDraft(plain)
		snap, parent, next := wholeSnap(d.snap), wholeHeader(d.parent), wholeHeader(d.next)
		_, applied := applyNextAs(plain.config, plain.snap, plain.next)
		wantSnapsApart(t, "ApplyNext", func() impl.SnapResult { return impl.ApplyNext(d.config, d.snap, d.next) }, applied)
		_, made := makeNextAs(plain.config, plain.snap, plain.parent, plain.next.Signer, plain.next.Target, true)
		wantHeadersApart(t, "MakeNext", func() impl.HeaderResult {
			return impl.MakeNext(d.config, d.snap, d.parent, d.next.Signer, d.next.Target, true)
		}, made)
		first := impl.Header{Parent: make([]byte, 32), Hard: 1, Signers: plain.snap.Signers, Receipts: plain.parent.Receipts, Signer: plain.snap.Signers[0]}
		wantHeadersApart(t, "GenesisOf", func() impl.HeaderResult { return impl.GenesisOf(d.snap.Signers, d.parent.Receipts) }, first)
		start := impl.Snap{Number: 1000, Signers: plain.parent.Signers}
		wantSnapsApart(t, "ReplayAll of none", func() impl.SnapResult { return impl.ReplayAll(d.config, d.parent, nil) }, start)
		if !reflect.DeepEqual(wholeSnap(d.snap), snap) || !reflect.DeepEqual(wholeHeader(d.parent), parent) || !reflect.DeepEqual(wholeHeader(d.next), next) {
			t.Errorf("an argument at %d is changed with an answer", i)
		}
	}
	for _, k := range someChains(t)[:4] {
		for _, count := range []int{1, 2, 7} {
			genesis, list := roomyHeader(k.genesis), roomyHeaders(k.list[:count])
			before, headers := wholeHeader(genesis), wholeHeaders(list)
			wantSnapsApart(t, "ReplayAll", func() impl.SnapResult { return impl.ReplayAll(k.config, genesis, list) }, k.snaps[count])
			if !reflect.DeepEqual(wholeHeader(genesis), before) || !reflect.DeepEqual(wholeHeaders(list), headers) {
				t.Error("a header is changed with an answer")
			}
		}
	}
}

// Arguments that share all the memory that they can: what is told of them comes apart.
func TestP1RulesOfOneMemoryComeApart(t *testing.T) {
	x := entwinedSnap()
	whole := bytes.Repeat(x.Signers[1], 8)
	parent := impl.Header{Parent: whole, Number: x.Number, Receipts: whole, Signer: whole[:4], Seal: whole[4:8], Signers: x.Signers}
	plainX, plain := cloneSnap(x), cloneHeader(parent)
	for _, mode := range modes() {
		for _, epoch := range []int64{5, 7} {
			c := impl.Config{Mode: mode, Period: 1, Epoch: epoch}
			for _, signer := range x.Signers {
				code, made := makeNextAs(c, plainX, plain, signer, signer, false)
				if code != impl.OK {
					t.Fatal(code)
				}
				wantHeadersApart(t, "MakeNext", func() impl.HeaderResult { return impl.MakeNext(c, x, parent, signer, signer, false) }, made)
				h := withChange(parent, func(h *impl.Header) { h.Number++ })
				h.Signer, h.Target, h.Nonce = signer, signer, impl.NonceDrop
				_, applied := applyNextAs(c, plainX, cloneHeader(h))
				wantSnapsApart(t, "ApplyNext", func() impl.SnapResult { return impl.ApplyNext(c, x, h) }, applied)
			}
		}
	}
	eight := bytes.Join(crowd()[:8], nil)
	signers := [][]byte{eight[4:8], eight[8:12], eight[12:16]}
	first := impl.Header{Parent: make([]byte, 32), Hard: 1, Signers: cloneLists(signers), Receipts: bytes.Clone(eight), Signer: bytes.Clone(signers[0])}
	wantHeadersApart(t, "GenesisOf", func() impl.HeaderResult { return impl.GenesisOf(signers, eight) }, first)
	if !equalSnaps(x, plainX) || !equalHeaders(parent, plain) || !bytes.Equal(eight, bytes.Join(crowd()[:8], nil)) {
		t.Error("an argument that shares memory is changed with an answer")
	}
}

func TestP1RulesAnswersDoNotFollowTheirArguments(t *testing.T) {
	for _, plain := range apartDrafts() {
		d := plain.with()
		_, wantSnapshot := applyNextAs(plain.config, plain.snap, plain.next)
		_, wantMade := makeNextAs(plain.config, plain.snap, plain.parent, plain.next.Signer, plain.next.Target, true)
		applied := impl.ApplyNext(d.config, d.snap, d.next)
		made := impl.MakeNext(d.config, d.snap, d.parent, d.next.Signer, d.next.Target, true)
		first := impl.GenesisOf(d.snap.Signers, d.parent.Receipts)
		start := impl.ReplayAll(d.config, d.parent, nil)
		spoilSnap(d.snap)
		spoilHeader(d.parent)
		spoilHeader(d.next)
		wantSnap(t, "ApplyNext, its arguments changed since", applied, impl.OK, wantSnapshot)
		wantHeader(t, "MakeNext, its arguments changed since", made, impl.OK, wantMade)
		wantHeader(t, "GenesisOf, its arguments changed since", first, impl.OK, impl.Header{
			Parent: make([]byte, 32), Hard: 1, Signers: plain.snap.Signers, Receipts: plain.parent.Receipts, Signer: plain.snap.Signers[0],
		})
		wantSnap(t, "ReplayAll, its arguments changed since", start, impl.OK, impl.Snap{Number: 1000, Signers: plain.parent.Signers})
	}
	for _, k := range someChains(t)[:4] {
		genesis, list := cloneHeader(k.genesis), slices.Clone(k.list[:9])
		for at, h := range list {
			list[at] = cloneHeader(h)
		}
		replayed := impl.ReplayAll(k.config, genesis, list)
		for _, h := range append(list, genesis) {
			spoilHeader(h)
		}
		wantSnap(t, "ReplayAll, its headers changed since", replayed, impl.OK, k.snaps[9])
	}
}
