package tests

import (
	"bytes"
	"reflect"
	"slices"
	"testing"

	"loop.example/g00383/impl"
)

// markArguments stand for addresses and for hashes, right and wrong.
func markArguments() [][]byte {
	return [][]byte{nil, {}, fill(1), fill(3), fill(4), addr(0), fill(5), fill(31), fill(32), make([]byte, 32), fill(33), fill(1200), fill(1201), fill(1 << 16)}
}

// sealArguments are headers of every kind that chapter 6 tells apart, with and without a fault.
func sealArguments() []impl.Header {
	list := headerArguments()
	for _, h := range signedHeaders() {
		committed := committedAs(h, risingAddrs(7))
		wrong, fallen := cloneHeader(committed), cloneHeader(committed)
		wrong.Commits[6] = flipped(wrong.Commits[6], 63)
		slices.Reverse(fallen.Commits)
		one := committed.Commits[0]
		list = append(list, h, committedAs(h, nil), committed, wrong, fallen, withCommits(h, [][]byte{one, one}), withCommits(h, slices.Repeat([][]byte{one}, 8)))
		for _, row := range headerFaultChanges() {
			list = append(list, withChange(committed, row.change))
		}
	}
	return list
}

type sealAnswers struct {
	Seal, Commit      []impl.BytesResult
	Signed, Committed []impl.HeaderResult
	Right             []bool
	Committers        []impl.SignersResult
}

// askSeals calls each function of chapter 6 with each argument, each two and each header with each list.
func askSeals(marks [][]byte, headers []impl.Header, lists [][][]byte) sealAnswers {
	var all sealAnswers
	for _, a := range marks {
		for _, b := range marks {
			all.Seal = append(all.Seal, impl.SealOf(a, b))
			all.Commit = append(all.Commit, impl.CommitOf(a, b))
		}
	}
	for _, h := range headers {
		all.Signed = append(all.Signed, impl.SignHeader(h))
		all.Right = append(all.Right, impl.SealRight(h))
		all.Committers = append(all.Committers, impl.CommittersOf(h))
		for _, list := range lists {
			all.Committed = append(all.Committed, impl.CommitHeader(h, list))
		}
	}
	return all
}

// wantHeaderOrCode: a header without a fault, or nothing beside one of the codes.
func wantHeaderOrCode(t *testing.T, call string, at int, r impl.HeaderResult) {
	t.Helper()
	nothing := impl.HeaderResult{Code: r.Code}
	codes := []int64{impl.ErrForm, impl.ErrRange, impl.ErrMany}
	if r.Code == impl.OK && impl.HeaderFault(r.Header) != impl.OK || r.Code != impl.OK && (!slices.Contains(codes, r.Code) || !reflect.DeepEqual(r, nothing)) {
		t.Errorf("%s at %d: %+v", call, at, r)
	}
}

func TestP1SealsAnswerAtEveryArgument(t *testing.T) {
	headers := sealArguments()
	all := askSeals(markArguments(), headers, signersArguments())
	for i := range all.Seal {
		wantLength(t, "SealOf", i, all.Seal[i].Code, len(all.Seal[i].Bytes), []int64{impl.ErrForm}, 4)
		wantLength(t, "CommitOf", i, all.Commit[i].Code, len(all.Commit[i].Bytes), []int64{impl.ErrForm}, 8)
	}
	codes := []int64{impl.ErrForm, impl.ErrRange, impl.ErrMany, impl.ErrSign, impl.ErrTaken}
	for i, h := range headers {
		fault := impl.HeaderFault(h)
		wantHeaderOrCode(t, "SignHeader", i, all.Signed[i])
		wantLength(t, "CommittersOf", i, all.Committers[i].Code, len(all.Committers[i].Signers), codes, len(h.Commits))
		if all.Signed[i].Code != fault || fault != impl.OK && (all.Committers[i].Code != fault || all.Right[i]) {
			t.Errorf("the header at %d has the fault %d: signing it tells %d, its committers %d, its seal is right: %v", i, fault, all.Signed[i].Code, all.Committers[i].Code, all.Right[i])
		}
	}
	for i, r := range all.Committed {
		wantHeaderOrCode(t, "CommitHeader", i, r)
	}
}

func TestP1SealsHangOnTheArgumentsAlone(t *testing.T) {
	first := askSeals(markArguments(), sealArguments(), signersArguments())
	again := askSeals(markArguments(), sealArguments(), signersArguments())
	if !reflect.DeepEqual(first, again) {
		t.Error("the same arguments are answered otherwise the second time")
	}
	var roomy []impl.Header
	for _, h := range sealArguments() {
		roomy = append(roomy, roomyHeader(h))
	}
	behind := askSeals(allWithRoom(markArguments(), 5), roomy, roomySigners())
	if !reflect.DeepEqual(first.Seal, behind.Seal) || !reflect.DeepEqual(first.Commit, behind.Commit) || !reflect.DeepEqual(first.Right, behind.Right) || !reflect.DeepEqual(first.Committers, behind.Committers) {
		t.Error("an answer hangs on what is behind an argument")
	}
	for i, r := range first.Signed {
		wantHeader(t, "SignHeader with room behind", behind.Signed[i], r.Code, r.Header)
	}
	for i, r := range first.Committed {
		wantHeader(t, "CommitHeader with room behind", behind.Committed[i], r.Code, r.Header)
	}
}

// An answer must not hang on what was asked ahead of it.
func TestP1SealsAnswerTheSameBehindOthers(t *testing.T) {
	h, list := signedAs(fullHeader()), risingAddrs(7)
	committed := committedAs(h, list)
	for _, other := range sealArguments() {
		askSeals([][]byte{other.Signer, other.Parent}, []impl.Header{other}, [][][]byte{other.Signers})
		wantHeader(t, "SignHeader behind another one", impl.SignHeader(fullHeader()), impl.OK, h)
		wantHeader(t, "CommitHeader behind another one", impl.CommitHeader(h, list), impl.OK, committed)
		wantCommitters(t, "behind another one", committed, impl.OK, list)
		wantSealRight(t, "behind another one", committed, true)
	}
}

func TestP1SealsAnswerSideBySide(t *testing.T) {
	headers := manyHeaders(8)
	wantSideBySide(t, 100, func(i int) func() bool {
		h, list := headers[i], risingAddrs(i)
		signed := signedAs(h)
		committed := committedAs(signed, list)
		return func() bool {
			same := equalHeaders(impl.SignHeader(h).Header, signed) && impl.SealRight(signed) && !impl.SealRight(h)
			same = same && equalHeaders(impl.CommitHeader(signed, list).Header, committed)
			return same && equalLists(impl.CommittersOf(committed).Signers, list)
		}
	})
}

func TestP1SealsChangeNoArgument(t *testing.T) {
	for i, h := range sealArguments() {
		shown := roomyHeader(h)
		before := wholeHeader(shown)
		// What a header holds is told as a list and as bytes of its own too.
		askSeals([][]byte{shown.Signer, shown.Parent, shown.Seal}, []impl.Header{shown}, [][][]byte{shown.Signers, shown.Commits})
		if !reflect.DeepEqual(wholeHeader(shown), before) {
			t.Errorf("the header at %d, or what is behind it, was changed", i)
		}
	}
	for i, list := range roomySigners() {
		before := wholeLists(list)
		askSeals(nil, []impl.Header{fullHeader(), bareHeader()}, [][][]byte{list})
		if !reflect.DeepEqual(wholeLists(list), before) {
			t.Errorf("the list at %d, or what is behind it, was changed", i)
		}
	}
	wantUnchanged(t, markArguments(), 99, func(data []byte) {
		askSeals([][]byte{data, fill(4), fill(32)}, nil, nil)
	})
}

// wantHeadersApart: a header that was told is changed, the room behind all of it too; nothing else is.
func wantHeadersApart(t *testing.T, call string, ask func() impl.HeaderResult, want impl.Header) {
	t.Helper()
	one, two := ask(), ask()
	spoilHeader(one.Header)
	wantHeader(t, call+" beside a changed answer", two, impl.OK, want)
	wantHeader(t, call+" behind a changed answer", ask(), impl.OK, want)
	for changed := range memoryOf(want) {
		memory := memoryOf(ask().Header)
		before := cloneLists(memory)
		spoil(memory[changed], 77)
		for at := range memory {
			if at != changed && !bytes.Equal(memory[at], before[at]) {
				t.Errorf("%s: the bytes at %d are changed with those at %d", call, at, changed)
			}
		}
	}
	signers, commits := ask().Header, ask().Header
	spoil(signers.Signers, []byte{77})
	spoil(commits.Commits, []byte{77})
	if !equalLists(signers.Commits, want.Commits) || !equalLists(commits.Signers, want.Signers) {
		t.Errorf("%s: Signers and Commits are changed with each other", call)
	}
}

// entwined is a header without a fault whose fields, and the list beside it, share all the memory that they can.
func entwined() (impl.Header, [][]byte) {
	whole := bytes.Repeat(addr(0x0a0b0c0d), 8)
	list := [][]byte{whole[:4]}
	commits := [][]byte{whole[:8], whole[:8], whole[4:12]}
	return impl.Header{Parent: whole, Receipts: whole, Target: whole[:4], Signer: whole[:4], Seal: whole[4:8], Signers: list, Commits: commits}, list
}

func TestP1SealsHeadersShareNoMemory(t *testing.T) {
	headers := append(goodHeaders(), signedHeaders()...)
	for _, good := range headers {
		h, list := roomyHeader(good), withRoom(allWithRoom(risingAddrs(7), 7), addr(77))
		before, beforeList := wholeHeader(h), wholeLists(list)
		wantHeadersApart(t, "SignHeader", func() impl.HeaderResult { return impl.SignHeader(h) }, signedAs(good))
		wantHeadersApart(t, "CommitHeader", func() impl.HeaderResult { return impl.CommitHeader(h, list) }, committedAs(good, risingAddrs(7)))
		if !reflect.DeepEqual(wholeHeader(h), before) || !reflect.DeepEqual(wholeLists(list), beforeList) {
			t.Error("an argument is changed with an answer")
		}
	}
	h, list := entwined()
	before := cloneHeader(h)
	wantHeaderFault(t, "one whose fields share memory", h, impl.OK)
	wantHeadersApart(t, "SignHeader", func() impl.HeaderResult { return impl.SignHeader(h) }, signedAs(before))
	wantHeadersApart(t, "CommitHeader", func() impl.HeaderResult { return impl.CommitHeader(h, list) }, committedAs(before, before.Signers))
	if !equalHeaders(h, before) {
		t.Error("an argument whose fields share memory is changed with an answer")
	}
}

func TestP1SealsBytesShareNoMemory(t *testing.T) {
	who, hash := withRoom(addr(5), 7), withRoom(fill(32), 7)
	before := wholeLists([][]byte{who, hash})
	wantBytesApart(t, "SealOf", func() []byte { return impl.SealOf(who, hash).Bytes })
	wantBytesApart(t, "CommitOf", func() []byte { return impl.CommitOf(who, hash).Bytes })
	if !reflect.DeepEqual(wholeLists([][]byte{who, hash}), before) {
		t.Error("an argument is changed with an answer")
	}
}

func TestP1SealsCommittersShareNoMemory(t *testing.T) {
	list := risingAddrs(7)
	for _, good := range signedHeaders() {
		h := roomyHeader(committedAs(good, list))
		before := wholeHeader(h)
		one, two := impl.CommittersOf(h), impl.CommittersOf(h)
		for changed := range list {
			spoil(one.Signers[changed], 77)
			if !equalLists(one.Signers[changed+1:], list[changed+1:]) {
				t.Errorf("committers are changed with the one at %d", changed)
			}
		}
		spoil(one.Signers, []byte{77})
		if !equalLists(two.Signers, list) || !reflect.DeepEqual(wholeHeader(h), before) {
			t.Error("another answer, or the argument, is changed with an answer")
		}
		wantCommitters(t, "behind a changed answer", h, impl.OK, list)
	}
}

func TestP1SealsAnswersDoNotFollowTheirArguments(t *testing.T) {
	for _, good := range signedHeaders() {
		h, list := cloneHeader(good), risingAddrs(7)
		committed := committedAs(good, list)
		signed, made := impl.SignHeader(h), impl.CommitHeader(h, list)
		committers := impl.CommittersOf(committed)
		who, hash := addr(5), fill(32)
		seal, commit := impl.SealOf(who, hash), impl.CommitOf(who, hash)
		spoilHeader(h)
		spoilHeader(committed)
		for _, data := range append(list, who, hash) {
			spoil(data, 77)
		}
		spoil(list, []byte{77})
		wantHeader(t, "SignHeader, its argument changed since", signed, impl.OK, good)
		wantHeader(t, "CommitHeader, its arguments changed since", made, impl.OK, committedAs(good, risingAddrs(7)))
		wantBytes(t, "SealOf, its arguments changed since", seal, impl.OK, sealAs(addr(5), fill(32)))
		wantBytes(t, "CommitOf, its arguments changed since", commit, impl.OK, commitAs(addr(5), fill(32)))
		if committers.Code != impl.OK || !equalLists(committers.Signers, risingAddrs(7)) {
			t.Errorf("CommittersOf, its argument changed since: %+v", committers)
		}
	}
}
