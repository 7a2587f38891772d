package tests

import (
	"bytes"
	"math"
	"reflect"
	"slices"
	"testing"

	"loop.example/g00383/impl"
)

// snapArguments are snapshots of every kind that chapter 7 tells apart, with and without a fault.
func snapArguments() []impl.Snap {
	list := append(goodSnaps(), impl.Snap{}, votedBy(plainSnap(7), 4, addr(1), false), votedBy(plainSnap(2), 1, outsider(0), true))
	for _, row := range snapFaultChanges() {
		list = append(list, withSnap(fullSnap(), row.change), withSnap(someSnap(), row.change))
	}
	for _, n := range []int64{math.MinInt64, math.MaxInt64} {
		low := withSnap(fullSnap(), func(x *impl.Snap) { x.Number, x.Recents[0].Number = n, n })
		list = append(list, low, withSnap(someSnap(), func(x *impl.Snap) { x.Recents[2].Number = n }))
	}
	huge := impl.Snap{Signers: make([][]byte, 1<<12), Recents: make([]impl.Recent, 1<<12), Votes: make([]impl.Vote, 1<<12)}
	long := withSnap(someSnap(), func(x *impl.Snap) { x.Votes[0].Signer, x.Recents[0].Signer = fill(1<<16), fill(1<<16) })
	return append(list, huge, long)
}

// whoArguments stand for signers and for targets, right and wrong.
func whoArguments() [][]byte {
	return append(wrongAddrs(), addr(0), addr(1), risingAddrs(3)[1], risingAddrs(7)[6], outsider(0), outsider(9), []byte{255, 255, 255, 255}, fill(1<<16))
}

func blockArguments() []int64 {
	return []int64{math.MinInt64, -topNumber, -1, 0, 1, 7, 999, 1000, 1001, topNumber - 1, topNumber, topNumber + 1, math.MaxInt64}
}

type snapAnswers struct {
	Fault       []int64
	Made, Voted []impl.SnapResult
	Tally, Turn []impl.IntResult
	Recent      []bool
	Same        []bool
}

// askSnaps calls each function of chapter 7 with each snapshot, and with each argument beside it.
func askSnaps(snaps []impl.Snap, whos [][]byte, numbers []int64, lists [][][]byte) snapAnswers {
	var all snapAnswers
	for _, x := range snaps {
		all.Fault = append(all.Fault, impl.SnapFault(x))
		for _, other := range snaps {
			all.Same = append(all.Same, impl.SameSnaps(x, other))
		}
		for _, who := range whos {
			all.Tally = append(all.Tally, impl.TallyOf(x, who))
			for _, target := range whos {
				all.Voted = append(all.Voted, impl.CastVote(x, who, target, true), impl.CastVote(x, who, target, false))
			}
			for _, number := range numbers {
				all.Turn = append(all.Turn, impl.TurnOf(x, who, number))
				all.Recent = append(all.Recent, impl.WasRecent(x, who, number))
			}
		}
	}
	for _, list := range lists {
		all.Made = append(all.Made, impl.NewSnap(list))
	}
	return all
}

func askAllSnaps() snapAnswers {
	return askSnaps(snapArguments(), whoArguments(), blockArguments(), signersArguments())
}

// wantSnapOrCode: a snapshot without a fault, or nothing beside one of the codes.
func wantSnapOrCode(t *testing.T, call string, at int, r impl.SnapResult, codes ...int64) {
	t.Helper()
	nothing := impl.SnapResult{Code: r.Code}
	if r.Code == impl.OK && impl.SnapFault(r.Snap) != impl.OK || r.Code != impl.OK && (!slices.Contains(codes, r.Code) || !reflect.DeepEqual(r, nothing)) {
		t.Errorf("%s at %d: %+v", call, at, r)
	}
}

// wantIntOrCode: one of the values, or 0 beside one of the codes.
func wantIntOrCode(t *testing.T, call string, at int, r impl.IntResult, most int64, codes ...int64) {
	t.Helper()
	if r.Code == impl.OK && (r.Value < 0 || r.Value > most) || r.Code != impl.OK && (!slices.Contains(codes, r.Code) || r.Value != 0) {
		t.Errorf("%s at %d: %+v", call, at, r)
	}
}

func TestP1SnapsAnswerAtEveryArgument(t *testing.T) {
	all := askAllSnaps()
	faults := []int64{impl.ErrForm, impl.ErrMany, impl.ErrRange, impl.ErrNone, impl.ErrRule, impl.ErrTaken}
	for i, code := range all.Fault {
		if code != impl.OK && !slices.Contains(faults, code) {
			t.Errorf("SnapFault at %d: %d", i, code)
		}
	}
	for i, r := range all.Made {
		wantSnapOrCode(t, "NewSnap", i, r, impl.ErrNone, impl.ErrMany, impl.ErrForm)
	}
	for i, r := range all.Voted {
		wantSnapOrCode(t, "CastVote", i, r, append(faults, impl.ErrFull)...)
	}
	for i, r := range all.Tally {
		wantIntOrCode(t, "TallyOf", i, r, 7, faults...)
	}
	for i, r := range all.Turn {
		wantIntOrCode(t, "TurnOf", i, r, 2, faults...)
		if r.Code == impl.OK && r.Value == 0 {
			t.Errorf("TurnOf at %d: %+v", i, r)
		}
	}
	// Each tells the fault of its snapshot.
	tallies, votes, turns := len(all.Tally)/len(all.Fault), len(all.Voted)/len(all.Fault), len(all.Turn)/len(all.Fault)
	for i, code := range all.Fault {
		if code == impl.OK {
			continue
		}
		tally := slices.ContainsFunc(all.Tally[i*tallies:(i+1)*tallies], func(r impl.IntResult) bool { return r.Code != code })
		voted := slices.ContainsFunc(all.Voted[i*votes:(i+1)*votes], func(r impl.SnapResult) bool { return r.Code != code })
		turn := slices.ContainsFunc(all.Turn[i*turns:(i+1)*turns], func(r impl.IntResult) bool { return r.Code != code })
		if tally || voted || turn || slices.Contains(all.Recent[i*turns:(i+1)*turns], true) {
			t.Errorf("the snapshot at %d has the fault %d, and is answered otherwise", i, code)
		}
	}
}

// roomySnap is the same snapshot, in memory with more room than it shows.
func roomySnap(x impl.Snap) impl.Snap {
	roomy := impl.Snap{Number: x.Number, Signers: withRoom(allWithRoom(x.Signers, 7), fill(4))}
	for _, r := range x.Recents {
		roomy.Recents = append(roomy.Recents, impl.Recent{Number: r.Number, Signer: withRoom(r.Signer, 7)})
	}
	for _, v := range x.Votes {
		roomy.Votes = append(roomy.Votes, impl.Vote{Signer: withRoom(v.Signer, 7), Target: withRoom(v.Target, 7), Add: v.Add})
	}
	roomy.Recents = withRoom(roomy.Recents, impl.Recent{Number: 7, Signer: fill(4)})
	roomy.Votes = withRoom(roomy.Votes, impl.Vote{Signer: fill(4), Target: fill(4), Add: true})
	return roomy
}

// smallSnaps are the arguments without the longest ones.
func smallSnaps() []impl.Snap {
	return slices.DeleteFunc(snapArguments(), func(x impl.Snap) bool { return len(x.Votes) > 1000 })
}

// sameAnswers holds them against each other; nil and empty are the same.
func sameAnswers(a snapAnswers, b snapAnswers) bool {
	same := func(r impl.SnapResult, s impl.SnapResult) bool { return r.Code == s.Code && equalSnaps(r.Snap, s.Snap) }
	numbers := slices.Equal(a.Fault, b.Fault) && slices.Equal(a.Tally, b.Tally) && slices.Equal(a.Turn, b.Turn)
	told := slices.Equal(a.Recent, b.Recent) && slices.Equal(a.Same, b.Same)
	return numbers && told && slices.EqualFunc(a.Made, b.Made, same) && slices.EqualFunc(a.Voted, b.Voted, same)
}

func TestP1SnapsHangOnTheArgumentsAlone(t *testing.T) {
	first := askAllSnaps()
	for range 3 {
		if !reflect.DeepEqual(first, askAllSnaps()) {
			t.Error("the same arguments are answered otherwise another time")
		}
	}
	var roomy []impl.Snap
	for _, x := range smallSnaps() {
		roomy = append(roomy, roomySnap(x))
	}
	plain := askSnaps(smallSnaps(), whoArguments(), blockArguments(), signersArguments())
	if !sameAnswers(plain, askSnaps(roomy, allWithRoom(whoArguments(), 7), blockArguments(), roomySigners())) {
		t.Error("an answer hangs on what is behind an argument")
	}
}

// Votes stand in the order in which they came, however often it is asked.
func TestP1SnapsTellVotesInOrderEachTime(t *testing.T) {
	x := fullSnap()
	gone := x.Votes[17]
	want := withSnap(x, func(x *impl.Snap) { x.Votes = slices.Delete(x.Votes, 17, 18) })
	for range 300 {
		wantSnap(t, "a vote taken back", impl.CastVote(x, gone.Signer, gone.Target, !gone.Add), impl.OK, want)
	}
}

// An answer must not hang on what was asked ahead of it.
func TestP1SnapsAnswerTheSameBehindOthers(t *testing.T) {
	x := someSnap()
	code, voted := castAs(x, x.Signers[0], outsider(1), true)
	for _, other := range snapArguments() {
		askSnaps([]impl.Snap{other}, [][]byte{addr(1), outsider(1), nil}, []int64{0, 1000}, [][][]byte{other.Signers})
		wantSnap(t, "CastVote behind another one", impl.CastVote(x, x.Signers[0], outsider(1), true), code, voted)
		wantSnap(t, "NewSnap behind another one", impl.NewSnap(risingAddrs(3)), impl.OK, impl.Snap{Signers: risingAddrs(3)})
		wantInt(t, "TallyOf behind another one", impl.TallyOf(x, x.Signers[1]), impl.OK, 2)
		wantInt(t, "TurnOf behind another one", impl.TurnOf(x, x.Signers[1], 1), impl.OK, 2)
		wantRecent(t, "one behind another one", x, x.Signers[0], 1001, true)
		wantSameSnaps(t, "two behind another one", x, someSnap(), true)
		wantSnapFault(t, "one behind another one", x, impl.OK)
	}
}

func TestP1SnapsAnswerSideBySide(t *testing.T) {
	wantSideBySide(t, 200, func(i int) func() bool {
		x := withSnap(fullSnap(), func(x *impl.Snap) { x.Votes = x.Votes[i:] })
		signer, target := bytes.Clone(x.Signers[6]), outsider(7-i%3)
		code, voted := castAs(x, signer, target, true)
		tally := int64(len(votesOn(x, target)))
		return func() bool {
			got := impl.CastVote(x, signer, target, true)
			same := got.Code == code && equalSnaps(got.Snap, voted) && impl.TallyOf(x, target).Value == tally
			same = same && impl.SnapFault(x) == impl.OK && impl.SameSnaps(got.Snap, voted) && impl.WasRecent(x, signer, topNumber)
			return same && impl.TurnOf(x, signer, int64(i)).Value == int64(1+i%7/6)
		}
	})
}

// wholeSnap copies all that a snapshot may reach, the room behind it too.
func wholeSnap(x impl.Snap) impl.Snap {
	whole := impl.Snap{Number: x.Number, Signers: wholeLists(x.Signers)}
	for _, r := range x.Recents[:cap(x.Recents)] {
		whole.Recents = append(whole.Recents, impl.Recent{Number: r.Number, Signer: bytes.Clone(r.Signer[:cap(r.Signer)])})
	}
	for _, v := range x.Votes[:cap(x.Votes)] {
		whole.Votes = append(whole.Votes, voteOf(v.Signer[:cap(v.Signer)], v.Target[:cap(v.Target)], v.Add))
	}
	return whole
}

func TestP1SnapsChangeNoArgument(t *testing.T) {
	for i, x := range smallSnaps() {
		shown := roomySnap(x)
		before := wholeSnap(shown)
		// What a snapshot holds is told as a signer, as a target and as a list too.
		whos := append(slices.Clone(shown.Signers), outsider(0), outsider(9), nil)
		for _, v := range shown.Votes {
			whos = append(whos, v.Target)
		}
		askSnaps([]impl.Snap{shown, fullSnap()}, whos, []int64{0, 1000}, [][][]byte{shown.Signers})
		if !reflect.DeepEqual(wholeSnap(shown), before) {
			t.Errorf("the snapshot at %d, or what is behind it, was changed", i)
		}
	}
	for i, list := range roomySigners() {
		before := wholeLists(list)
		impl.NewSnap(list)
		if !reflect.DeepEqual(wholeLists(list), before) {
			t.Errorf("the list at %d, or what is behind it, was changed", i)
		}
	}
	wantUnchanged(t, whoArguments(), 99, func(who []byte) {
		askSnaps(goodSnaps(), [][]byte{who, addr(1)}, []int64{0, 1000}, nil)
	})
}

// memoryOfSnap are all bytes of a snapshot; each with the room behind it.
func memoryOfSnap(x impl.Snap) [][]byte {
	all := slices.Clone(x.Signers)
	for _, r := range x.Recents {
		all = append(all, r.Signer)
	}
	for _, v := range x.Votes {
		all = append(all, v.Signer, v.Target)
	}
	return all
}

func spoilSnap(x impl.Snap) {
	for _, data := range memoryOfSnap(x) {
		spoil(data, 77)
	}
	spoil(x.Signers, []byte{77})
	spoil(x.Recents, impl.Recent{Number: 77})
	spoil(x.Votes, impl.Vote{Add: true})
}

// wantSnapsApart: a snapshot that was told is changed, the room behind all of it too; nothing else is.
func wantSnapsApart(t *testing.T, call string, ask func() impl.SnapResult, want impl.Snap) {
	t.Helper()
	one, two := ask(), ask()
	spoilSnap(one.Snap)
	wantSnap(t, call+" beside a changed answer", two, impl.OK, want)
	wantSnap(t, call+" behind a changed answer", ask(), impl.OK, want)
	for changed := range memoryOfSnap(want) {
		memory := memoryOfSnap(ask().Snap)
		before := cloneLists(memory)
		spoil(memory[changed], 77)
		for at := range memory {
			if at != changed && !bytes.Equal(memory[at], before[at]) {
				t.Errorf("%s: the bytes at %d are changed with those at %d", call, at, changed)
			}
		}
	}
}

// votesApart are votes with which each thing that CastVote may do comes to be.
func votesApart() []struct {
	snap impl.Snap
	vote impl.Vote
} {
	full, some := fullSnap(), someSnap()
	going := votedBy(withSnap(full, func(x *impl.Snap) { x.Votes = x.Votes[:20] }), 3, full.Signers[6], false)
	coming := withSnap(votedBy(plainSnap(6), 3, outsider(1), true), func(x *impl.Snap) {
		x.Recents = recentsUpTo(1000, 7, x.Signers)
		x.Votes = append(x.Votes, voteOf(x.Signers[0], x.Signers[5], false))
	})
	return []struct {
		snap impl.Snap
		vote impl.Vote
	}{
		{full, full.Votes[3]},
		{full, voteOf(full.Votes[3].Signer, full.Votes[3].Target, !full.Votes[3].Add)},
		{full, voteOf(full.Signers[6], full.Signers[6], true)},
		{some, voteOf(some.Signers[2], some.Signers[2], false)},
		{going, voteOf(going.Signers[5], going.Signers[6], false)},
		{coming, voteOf(coming.Signers[3], outsider(1), true)},
		{plainSnap(1), voteOf(addr(1), addr(1), false)},
		{plainSnap(1), voteOf(addr(1), outsider(1), true)},
	}
}

func TestP1SnapsShareNoMemory(t *testing.T) {
	for i, row := range votesApart() {
		code, want := castAs(row.snap, row.vote.Signer, row.vote.Target, row.vote.Add)
		if code != impl.OK {
			t.Fatalf("the vote at %d has the code %d", i, code)
		}
		x, signer, target := roomySnap(row.snap), withRoom(row.vote.Signer, 7), withRoom(row.vote.Target, 7)
		before, beside := wholeSnap(x), wholeLists([][]byte{signer, target})
		wantSnapsApart(t, "CastVote", func() impl.SnapResult { return impl.CastVote(x, signer, target, row.vote.Add) }, want)
		if !reflect.DeepEqual(wholeSnap(x), before) || !reflect.DeepEqual(wholeLists([][]byte{signer, target}), beside) {
			t.Errorf("an argument of the vote at %d is changed with an answer", i)
		}
	}
	for n := 1; n <= 7; n++ {
		list := withRoom(allWithRoom(risingAddrs(n), 7), addr(77))
		before := wholeLists(list)
		wantSnapsApart(t, "NewSnap", func() impl.SnapResult { return impl.NewSnap(list) }, impl.Snap{Signers: risingAddrs(n)})
		if !reflect.DeepEqual(wholeLists(list), before) {
			t.Error("a list is changed with an answer")
		}
	}
}

// entwinedSnap has no fault, and all of it shares the memory that it can.
func entwinedSnap() impl.Snap {
	whole := bytes.Join(risingAddrs(3), nil)
	a, b, c := whole[0:4], whole[4:8], whole[8:12]
	return impl.Snap{
		Number: 9, Signers: [][]byte{a, b, c}, Recents: []impl.Recent{{Number: 8, Signer: a}, {Number: 9, Signer: a}},
		Votes: []impl.Vote{{Signer: a, Target: a}, {Signer: b, Target: c}, {Signer: a, Target: b}},
	}
}

func TestP1SnapsOfOneMemoryComeApart(t *testing.T) {
	x := entwinedSnap()
	before := cloneSnap(x)
	wantSnapFault(t, "one that shares memory in itself", x, impl.OK)
	for _, target := range [][]byte{x.Signers[0], x.Signers[1], x.Signers[2]} {
		for _, add := range []bool{false, true} {
			_, want := castAs(before, x.Signers[0], target, add)
			wantSnapsApart(t, "CastVote", func() impl.SnapResult { return impl.CastVote(x, x.Signers[0], target, add) }, want)
		}
	}
	wantSnapsApart(t, "NewSnap", func() impl.SnapResult { return impl.NewSnap(x.Signers) }, impl.Snap{Signers: before.Signers})
	if !equalSnaps(x, before) {
		t.Error("an argument that shares memory in itself is changed with an answer")
	}
}

func TestP1SnapsAnswersDoNotFollowTheirArguments(t *testing.T) {
	for i, row := range votesApart() {
		_, want := castAs(row.snap, row.vote.Signer, row.vote.Target, row.vote.Add)
		x, signer, target := cloneSnap(row.snap), bytes.Clone(row.vote.Signer), bytes.Clone(row.vote.Target)
		voted := impl.CastVote(x, signer, target, row.vote.Add)
		list := cloneLists(row.snap.Signers)
		made := impl.NewSnap(list)
		spoilSnap(x)
		for _, data := range append(slices.Clone(list), signer, target) {
			spoil(data, 77)
		}
		spoil(list, []byte{77})
		if voted.Code != impl.OK || !equalSnaps(voted.Snap, want) {
			t.Errorf("CastVote at %d, its arguments changed since: %+v, want %+v", i, voted, want)
		}
		wantSnap(t, "NewSnap, its argument changed since", made, impl.OK, impl.Snap{Signers: row.snap.Signers})
	}
}
