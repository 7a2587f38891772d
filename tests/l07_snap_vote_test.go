package tests

import (
	"bytes"
	"math/rand/v2"
	"slices"
	"testing"

	"loop.example/g00383/impl"
)

// castAs is what the chapter says that comes of a vote, over lists alone.
func castAs(x impl.Snap, signer []byte, target []byte, add bool) (int64, impl.Snap) {
	if fault := snapFaultAs(x); fault != impl.OK {
		return fault, impl.Snap{}
	}
	if len(signer) != 4 || len(target) != 4 {
		return impl.ErrForm, impl.Snap{}
	}
	if !holds(x.Signers, signer) {
		return impl.ErrNone, impl.Snap{}
	}
	y := cloneSnap(x)
	y.Votes = slices.DeleteFunc(y.Votes, func(v impl.Vote) bool {
		return bytes.Equal(v.Signer, signer) && bytes.Equal(v.Target, target)
	})
	if add == holds(x.Signers, target) {
		return impl.OK, y
	}
	if len(y.Votes) == 30 {
		return impl.ErrMany, impl.Snap{}
	}
	y.Votes = append(y.Votes, voteOf(signer, target, add))
	if len(votesOn(y, target))*2 <= len(y.Signers) {
		return impl.OK, y
	}
	return decidedAs(y, target, add)
}

// decidedAs is what comes of votes that are more than half.
func decidedAs(y impl.Snap, target []byte, add bool) (int64, impl.Snap) {
	switch {
	case add && len(y.Signers) == 7:
		return impl.ErrFull, impl.Snap{}
	case add:
		y.Signers = append(y.Signers, bytes.Clone(target))
		slices.SortFunc(y.Signers, bytes.Compare)
	case len(y.Signers) == 1:
		return impl.OK, y
	default:
		y.Signers = slices.DeleteFunc(y.Signers, func(signer []byte) bool { return bytes.Equal(signer, target) })
		for len(y.Recents) > len(y.Signers)/2 {
			y.Recents = y.Recents[1:]
		}
	}
	y.Votes = slices.DeleteFunc(y.Votes, func(v impl.Vote) bool {
		return bytes.Equal(v.Target, target) || bytes.Equal(v.Signer, target) && !add
	})
	return impl.OK, y
}

// votesOn are the signers of all Votes on one.
func votesOn(x impl.Snap, target []byte) [][]byte {
	var signers [][]byte
	for _, v := range x.Votes {
		if bytes.Equal(v.Target, target) {
			signers = append(signers, v.Signer)
		}
	}
	return signers
}

// cast is what comes of a vote that has no code, and that has come to a snapshot without a fault.
func cast(t *testing.T, x impl.Snap, signer []byte, target []byte, add bool) impl.Snap {
	t.Helper()
	got := impl.CastVote(x, signer, target, add)
	if got.Code != impl.OK || impl.SnapFault(got.Snap) != impl.OK {
		t.Fatalf("CastVote of %v on %v, %v, with %+v: %+v", signer, target, add, x, got)
	}
	return got.Snap
}

func withVotes(x impl.Snap, votes ...impl.Vote) impl.Snap {
	return withSnap(x, func(x *impl.Snap) { x.Votes = votes })
}

// votedBy has on one target a Vote of each of the first so many signers.
func votedBy(x impl.Snap, count int, target []byte, add bool) impl.Snap {
	return withSnap(x, func(x *impl.Snap) {
		for _, signer := range x.Signers[:count] {
			x.Votes = append(x.Votes, voteOf(signer, target, add))
		}
	})
}

func TestP8CastVoteWrong(t *testing.T) {
	for _, x := range goodSnaps() {
		who := x.Signers[0]
		for _, add := range []bool{false, true} {
			for _, wrong := range wrongAddrs() {
				wantSnap(t, "CastVote of no address", impl.CastVote(x, wrong, outsider(9), add), impl.ErrForm, impl.Snap{})
				wantSnap(t, "CastVote on no address", impl.CastVote(x, who, wrong, add), impl.ErrForm, impl.Snap{})
				wantSnap(t, "CastVote of and on no address", impl.CastVote(x, wrong, wrong, add), impl.ErrForm, impl.Snap{})
				wantSnap(t, "CastVote of none of Signers on no address", impl.CastVote(x, outsider(9), wrong, add), impl.ErrForm, impl.Snap{})
			}
			for _, target := range [][]byte{who, outsider(9), outsider(0)} {
				wantSnap(t, "CastVote of none of Signers", impl.CastVote(x, outsider(9), target, add), impl.ErrNone, impl.Snap{})
			}
		}
	}
}

func TestP8CastVoteFirst(t *testing.T) {
	x := plainSnap(3)
	a, b := x.Signers[0], x.Signers[1]
	wantSnap(t, "a first vote to add", impl.CastVote(x, a, outsider(1), true), impl.OK, withVotes(x, voteOf(a, outsider(1), true)))
	wantSnap(t, "a first vote not to add", impl.CastVote(x, a, b, false), impl.OK, withVotes(x, voteOf(a, b, false)))
	wantSnap(t, "a first vote on oneself", impl.CastVote(x, b, b, false), impl.OK, withVotes(x, voteOf(b, b, false)))
	y := someSnap()
	next := withVotes(y, append(cloneSnap(y).Votes, voteOf(y.Signers[2], y.Signers[0], false))...)
	wantSnap(t, "a vote behind others", impl.CastVote(y, y.Signers[2], y.Signers[0], false), impl.OK, next)
}

func TestP8CastVoteTheSameAgain(t *testing.T) {
	x := plainSnap(7)
	a, b, c := voteOf(x.Signers[0], outsider(1), true), voteOf(x.Signers[1], outsider(1), true), voteOf(x.Signers[2], x.Signers[0], false)
	voted := withVotes(x, a, b, c)
	for _, row := range []struct {
		again impl.Vote
		want  []impl.Vote
	}{{a, []impl.Vote{b, c, a}}, {b, []impl.Vote{a, c, b}}, {c, []impl.Vote{a, b, c}}} {
		got := impl.CastVote(voted, row.again.Signer, row.again.Target, row.again.Add)
		wantSnap(t, "the same vote again", got, impl.OK, withVotes(x, row.want...))
	}
	one := withVotes(plainSnap(2), voteOf(addr(1), outsider(1), true))
	wantSnap(t, "the only vote again", impl.CastVote(one, addr(1), outsider(1), true), impl.OK, one)
}

func TestP8CastVoteTakenBack(t *testing.T) {
	x := plainSnap(7)
	a, b, c := voteOf(x.Signers[0], outsider(1), true), voteOf(x.Signers[1], x.Signers[0], false), voteOf(x.Signers[1], outsider(1), true)
	d := voteOf(x.Signers[0], x.Signers[0], false)
	voted := withVotes(x, a, b, c, d)
	for _, row := range []struct {
		back impl.Vote
		want []impl.Vote
	}{{a, []impl.Vote{b, c, d}}, {b, []impl.Vote{a, c, d}}, {c, []impl.Vote{a, b, d}}, {d, []impl.Vote{a, b, c}}} {
		got := impl.CastVote(voted, row.back.Signer, row.back.Target, !row.back.Add)
		wantSnap(t, "a vote that is taken back", got, impl.OK, withVotes(x, row.want...))
		// There is none to take back any more.
		wantSnap(t, "taken back twice", impl.CastVote(got.Snap, row.back.Signer, row.back.Target, !row.back.Add), impl.OK, got.Snap)
	}
	alone := withVotes(plainSnap(2), voteOf(addr(1), outsider(1), true))
	wantSnap(t, "the only vote taken back", impl.CastVote(alone, addr(1), outsider(1), false), impl.OK, plainSnap(2))
}

func TestP8CastVoteOnNothing(t *testing.T) {
	for _, x := range goodSnaps() {
		for _, signer := range x.Signers {
			for _, target := range x.Signers {
				if !holds(votesOn(x, target), signer) {
					wantSnap(t, "add for a Signer", impl.CastVote(x, signer, target, true), impl.OK, x)
				}
			}
			for n := range 10 {
				if !holds(votesOn(x, outsider(n)), signer) {
					wantSnap(t, "not add for one that is none", impl.CastVote(x, signer, outsider(n), false), impl.OK, x)
				}
			}
		}
	}
}

func TestP8CastVoteWith30(t *testing.T) {
	x := fullSnap()
	for _, signer := range x.Signers {
		wantSnap(t, "a 31st vote", impl.CastVote(x, signer, outsider(99), true), impl.ErrMany, impl.Snap{})
	}
	wantSnap(t, "a 31st vote not to add", impl.CastVote(x, x.Signers[6], x.Signers[6], false), impl.ErrMany, impl.Snap{})
	// There is no room for it, though it would be the one that is more than half.
	wantSnap(t, "a 31st vote that would decide", impl.CastVote(x, x.Signers[6], outsider(0), true), impl.ErrMany, impl.Snap{})
	wantSnap(t, "a 31st vote that would decide not to add", impl.CastVote(x, x.Signers[6], x.Signers[0], false), impl.ErrMany, impl.Snap{})
	for at, vote := range x.Votes {
		others := slices.Delete(cloneSnap(x).Votes, at, at+1)
		again := withVotes(x, append(slices.Clone(others), vote)...)
		wantSnap(t, "one of 30 again", impl.CastVote(x, vote.Signer, vote.Target, vote.Add), impl.OK, again)
		wantSnap(t, "one of 30 taken back", impl.CastVote(x, vote.Signer, vote.Target, !vote.Add), impl.OK, withVotes(x, others...))
	}
	fewer := withVotes(x, x.Votes[1:]...)
	voted := withVotes(x, append(cloneSnap(fewer).Votes, voteOf(x.Signers[6], outsider(99), true))...)
	wantSnap(t, "the 30th vote", impl.CastVote(fewer, x.Signers[6], outsider(99), true), impl.OK, voted)
	six := withSnap(x, func(x *impl.Snap) {
		x.Signers, x.Votes = x.Signers[:6], nil
		for i := range 30 {
			x.Votes = append(x.Votes, voteOf(x.Signers[i%6], outsider(i/6), true))
		}
	})
	// 30 votes, and one of them again: it has to be gone ahead of being counted, and decides.
	wantSignersOf(t, "one of 30 that decides", cast(t, six, six.Signers[0], outsider(0), true), append([][]byte{outsider(0)}, six.Signers...))
}

// wantSignersOf: the signers are these, in whatever order they are told here.
func wantSignersOf(t *testing.T, call string, x impl.Snap, signers [][]byte) {
	t.Helper()
	sorted := slices.Clone(signers)
	slices.SortFunc(sorted, bytes.Compare)
	if !equalLists(x.Signers, sorted) {
		t.Errorf("%s: the Signers are %v, want %v", call, x.Signers, sorted)
	}
}

// enough is how many votes are more than half of so many signers.
func enough() map[int]int {
	return map[int]int{1: 1, 2: 2, 3: 2, 4: 3, 5: 3, 6: 4, 7: 4}
}

func TestP8CastVoteMoreThanHalfToAdd(t *testing.T) {
	for n, need := range enough() {
		x := plainSnap(n)
		for count := 1; count < need; count++ {
			few := cast(t, votedBy(x, count-1, outsider(1), true), x.Signers[count-1], outsider(1), true)
			wantSnap(t, "not more than half", impl.SnapResult{Snap: few}, impl.OK, votedBy(x, count, outsider(1), true))
		}
		ready := votedBy(x, need-1, outsider(1), true)
		got := impl.CastVote(ready, x.Signers[need-1], outsider(1), true)
		if n == 7 {
			wantSnap(t, "more than half of 7", got, impl.ErrFull, impl.Snap{})
			continue
		}
		want := withSnap(x, func(x *impl.Snap) { x.Signers = slices.Insert(x.Signers, 1, outsider(1)) })
		wantSnap(t, "more than half", got, impl.OK, want)
	}
}

func TestP8CastVoteMoreThanHalfNotToAdd(t *testing.T) {
	for n, need := range enough() {
		x := plainSnap(n)
		for at, target := range x.Signers {
			for count := 1; count < need; count++ {
				few := cast(t, votedBy(x, count-1, target, false), x.Signers[count-1], target, false)
				wantSnap(t, "not more than half", impl.SnapResult{Snap: few}, impl.OK, votedBy(x, count, target, false))
			}
			ready := votedBy(x, need-1, target, false)
			want := withSnap(x, func(x *impl.Snap) { x.Signers = slices.Delete(x.Signers, at, at+1) })
			if n == 1 {
				want = votedBy(x, 1, target, false)
			}
			wantSnap(t, "more than half", impl.CastVote(ready, x.Signers[need-1], target, false), impl.OK, want)
		}
	}
}

// Exactly half is not more than half.
func TestP8CastVoteExactlyHalf(t *testing.T) {
	for _, n := range []int{2, 4, 6} {
		x := plainSnap(n)
		half := x
		for _, signer := range x.Signers[:n/2] {
			half = cast(t, half, signer, outsider(1), true)
			half = cast(t, half, signer, x.Signers[0], false)
		}
		wantSignersOf(t, "half of them", half, x.Signers)
		if len(half.Votes) != n || len(votesOn(half, outsider(1))) != n/2 || len(votesOn(half, x.Signers[0])) != n/2 {
			t.Errorf("half of %d: %+v", n, half)
		}
		last := x.Signers[n-1]
		wantSignersOf(t, "one more than half", cast(t, half, last, outsider(1), true), append([][]byte{outsider(1)}, x.Signers...))
		wantSignersOf(t, "one more than half", cast(t, half, last, x.Signers[0], false), x.Signers[1:])
	}
}

// One comes in where it has to stand, and all else stays.
func TestP8CastVoteComesInAtEachPlace(t *testing.T) {
	for n := 1; n <= 6; n++ {
		all := risingAddrs(n + 1)
		for at, target := range all {
			signers := slices.Delete(cloneLists(all), at, at+1)
			x := impl.Snap{Number: 50, Signers: signers, Recents: recentsUpTo(50, 7, all)}
			other := voteOf(signers[0], outsider(3), true)
			x.Votes = []impl.Vote{other, voteOf(signers[n-1], signers[0], false)}
			kept := slices.Clone(x.Votes)
			for _, signer := range signers[:enough()[n]-1] {
				x.Votes = slices.Insert(x.Votes, 1, voteOf(signer, target, true))
			}
			want := impl.Snap{Number: 50, Signers: all, Recents: x.Recents, Votes: kept}
			wantSnap(t, "one that comes in", impl.CastVote(x, signers[enough()[n]-1], target, true), impl.OK, want)
		}
	}
}

func TestP8CastVoteFull(t *testing.T) {
	x := votedBy(plainSnap(7), 3, outsider(1), true)
	for _, signer := range x.Signers[3:] {
		wantSnap(t, "an eighth", impl.CastVote(x, signer, outsider(1), true), impl.ErrFull, impl.Snap{})
	}
	wantSnap(t, "a vote of three again", impl.CastVote(x, x.Signers[2], outsider(1), true), impl.OK, x)
	// With as many as there may be one can still go.
	gone := cast(t, votedBy(plainSnap(7), 3, x.Signers[6], false), x.Signers[3], x.Signers[6], false)
	wantSignersOf(t, "one of seven that goes", gone, x.Signers[:6])
	wantSignersOf(t, "one that comes instead", cast(t, votedBy(gone, 3, outsider(1), true), x.Signers[5], outsider(1), true), append([][]byte{outsider(1)}, x.Signers[:6]...))
}

// One goes from each place: its own votes, and those on it, are gone; the others stand in their order.
func TestP8CastVoteGoes(t *testing.T) {
	for n := 2; n <= 7; n++ {
		x := plainSnap(n)
		for at, target := range x.Signers {
			other, last := x.Signers[(at+1)%n], x.Signers[n-1]
			if at == n-1 {
				last = x.Signers[0]
			}
			votes := []impl.Vote{voteOf(other, outsider(1), true), voteOf(target, outsider(1), true), voteOf(last, outsider(2), true), voteOf(target, other, false)}
			kept := []impl.Vote{votes[0], votes[2]}
			ready := withVotes(x, votes...)
			voters := slices.Clone(x.Signers)
			slices.Reverse(voters)
			need := enough()[n]
			for i, signer := range voters[:need-1] {
				ready.Votes = slices.Insert(ready.Votes, i%len(ready.Votes), voteOf(signer, target, false))
			}
			want := withSnap(x, func(x *impl.Snap) {
				x.Signers = slices.Delete(x.Signers, at, at+1)
				x.Votes = kept
			})
			wantSnap(t, "one that goes", impl.CastVote(ready, voters[need-1], target, false), impl.OK, want)
		}
	}
}

// Recents are cut from the front, down to half of those that are left.
func TestP8CastVoteCutsRecents(t *testing.T) {
	for n := 2; n <= 7; n++ {
		left := map[int]int{2: 0, 3: 1, 4: 1, 5: 2, 6: 2, 7: 3}[n]
		for count := range 8 {
			x := votedBy(plainSnap(n), enough()[n]-1, risingAddrs(n)[0], false)
			x.Recents = recentsUpTo(900, count, x.Signers)
			want := withSnap(plainSnap(n), func(y *impl.Snap) {
				y.Signers = y.Signers[1:]
				y.Recents = x.Recents[max(0, count-left):]
			})
			got := impl.CastVote(x, x.Signers[enough()[n]-1], x.Signers[0], false)
			wantSnap(t, "Recents where one goes", got, impl.OK, want)
		}
	}
}

// What one that goes has signed is kept as all else, and one that comes in cuts nothing.
func TestP8CastVoteKeepsRecents(t *testing.T) {
	x := votedBy(plainSnap(5), 2, addr(1), false)
	x.Recents = []impl.Recent{{Number: 998, Signer: addr(1)}, {Number: 1000, Signer: addr(1)}}
	gone := cast(t, x, x.Signers[2], addr(1), false)
	wantSnap(t, "Recents of one that goes", impl.SnapResult{Snap: gone}, impl.OK, impl.Snap{Number: 1000, Signers: x.Signers[1:], Recents: x.Recents})
	for n := 1; n <= 6; n++ {
		y := votedBy(plainSnap(n), enough()[n]-1, outsider(1), true)
		y.Recents = recentsUpTo(1000, 7, y.Signers)
		come := cast(t, y, y.Signers[enough()[n]-1], outsider(1), true)
		if !equalRecents(come.Recents, y.Recents) || come.Number != 1000 {
			t.Errorf("one comes in: %+v", come)
		}
		few := cast(t, y, y.Signers[0], outsider(2), false)
		if !equalSnaps(few, y) {
			t.Errorf("nothing is to be voted on: %+v", few)
		}
	}
}

func TestP8CastVoteItselfAway(t *testing.T) {
	for n := 2; n <= 7; n++ {
		x := plainSnap(n)
		for at, target := range x.Signers {
			others := slices.Delete(slices.Clone(x.Signers), at, at+1)
			ready := withVotes(x, voteOf(target, outsider(1), true), voteOf(target, others[0], false), voteOf(others[0], outsider(1), true))
			for _, signer := range others[:enough()[n]-1] {
				ready.Votes = append(ready.Votes, voteOf(signer, target, false))
			}
			want := impl.Snap{Number: 1000, Signers: others, Votes: []impl.Vote{voteOf(others[0], outsider(1), true)}}
			got := impl.CastVote(ready, target, target, false)
			wantSnap(t, "one that votes itself away", got, impl.OK, want)
			wantSnap(t, "it votes no more", impl.CastVote(got.Snap, target, outsider(1), true), impl.ErrNone, impl.Snap{})
		}
	}
}

func TestP8CastVoteLastSigner(t *testing.T) {
	x := plainSnap(1)
	x.Recents = recentsUpTo(1000, 7, x.Signers)
	x.Votes = []impl.Vote{voteOf(addr(1), outsider(1), true)}
	vote := voteOf(addr(1), addr(1), false)
	want := withVotes(x, x.Votes[0], vote)
	got := impl.CastVote(x, addr(1), addr(1), false)
	wantSnap(t, "a last Signer", got, impl.OK, want)
	wantSnapFault(t, "one whose last Signer is not taken", got.Snap, impl.OK)
	wantSnap(t, "a last Signer again", impl.CastVote(got.Snap, addr(1), addr(1), false), impl.OK, want)
	wantSnap(t, "a last Signer, taken back", impl.CastVote(got.Snap, addr(1), addr(1), true), impl.OK, x)
	first := withVotes(x, vote, x.Votes[0])
	wantSnap(t, "a last Signer once more", impl.CastVote(first, addr(1), addr(1), false), impl.OK, want)
	wantSnap(t, "another one comes in", impl.CastVote(first, addr(1), outsider(1), true), impl.OK, impl.Snap{Number: 1000, Signers: [][]byte{addr(1), outsider(1)}, Recents: x.Recents, Votes: []impl.Vote{vote}})
	// 30 votes leave no room for it, be it taken or not.
	for i := len(x.Votes); i < 30; i++ {
		x.Votes = append(x.Votes, voteOf(addr(1), outsider(i+1), true))
	}
	wantSnap(t, "a last Signer with 30 votes", impl.CastVote(x, addr(1), addr(1), false), impl.ErrMany, impl.Snap{})
}

// Where one goes, the votes on another one may come to be more than half: the next vote on it decides, and not one that is on nothing.
func TestP8CastVoteOfFewerSigners(t *testing.T) {
	x := plainSnap(4)
	a, b, c, d := x.Signers[0], x.Signers[1], x.Signers[2], x.Signers[3]
	for _, row := range []struct {
		target []byte
		add    bool
		then   [][]byte
	}{{outsider(1), true, [][]byte{a, b, c, outsider(1)}}, {c, false, [][]byte{a, b}}} {
		voted := cast(t, cast(t, x, a, row.target, row.add), b, row.target, row.add)
		for _, signer := range [][]byte{a, b, c} {
			voted = cast(t, voted, signer, d, false)
		}
		two := []impl.Vote{voteOf(a, row.target, row.add), voteOf(b, row.target, row.add)}
		left := impl.Snap{Number: 1000, Signers: [][]byte{a, b, c}, Votes: two}
		wantSnap(t, "three are left", impl.SnapResult{Snap: voted}, impl.OK, left)
		wantSnap(t, "a vote on nothing", impl.CastVote(voted, c, row.target, !row.add), impl.OK, left)
		wantSnap(t, "a vote taken back", impl.CastVote(voted, a, row.target, !row.add), impl.OK, withVotes(left, two[1]))
		for _, signer := range [][]byte{a, b, c} {
			wantSignersOf(t, "the next vote", cast(t, voted, signer, row.target, row.add), row.then)
		}
		other := cast(t, voted, c, outsider(2), true)
		wantSignersOf(t, "a vote on another one", other, left.Signers)
	}
}

// eachVote hands out each vote that those of all may have in a snapshot.
func eachVote(signers [][]byte, all [][]byte) []impl.Vote {
	var votes []impl.Vote
	for _, signer := range signers {
		for _, target := range all {
			votes = append(votes, voteOf(signer, target, !holds(signers, target)))
		}
	}
	return votes
}

// chosen are those whose bits are set in which.
func chosen[T any](list []T, which int) []T {
	var few []T
	for i, one := range list {
		if which>>i&1 == 1 {
			few = append(few, one)
		}
	}
	return few
}

// wantAsTold holds each vote of each of all on each of all against what the chapter says.
func wantAsTold(t *testing.T, x impl.Snap, all [][]byte) {
	t.Helper()
	for _, signer := range all {
		for _, target := range all {
			for _, add := range []bool{false, true} {
				code, want := castAs(x, signer, target, add)
				wantSnap(t, "a vote", impl.CastVote(x, signer, target, add), code, want)
			}
		}
	}
}

// Every snapshot of three addresses, with every choice of votes, and every vote then.
func TestP8CastVoteOfAllFewSigners(t *testing.T) {
	all := risingAddrs(3)
	for which := 1; which < 8; which++ {
		signers := chosen(all, which)
		possible := eachVote(signers, all)
		for choice := range 1 << len(possible) {
			x := impl.Snap{Number: 9, Signers: signers, Recents: recentsUpTo(9, choice%4, all), Votes: chosen(possible, choice)}
			if choice%2 == 1 {
				slices.Reverse(x.Votes)
			}
			wantAsTold(t, x, all)
		}
	}
}

// crowd are addresses that rise, more of them than there may be signers.
func crowd() [][]byte {
	var all [][]byte
	for i := range 17 {
		all = append(all, addr(i*0x0f0f0f0f))
	}
	return all
}

// walkSnaps hands out what comes of many votes, one behind the other, and what was ahead of each.
func walkSnaps(t *testing.T, seed uint64, times int, hear func(x impl.Snap, vote impl.Vote, got impl.SnapResult)) {
	t.Helper()
	r := rand.New(rand.NewPCG(8, seed))
	all := crowd()
	x := impl.NewSnap(chosen(all, 1+r.IntN(127))).Snap
	// Of few targets many come and go, of many there come to be many votes.
	among := 2 + r.IntN(len(all)-1)
	for range times {
		target := all[r.IntN(among)]
		vote := voteOf(x.Signers[r.IntN(len(x.Signers))], target, holds(x.Signers, target) == (r.IntN(6) == 0))
		got := impl.CastVote(x, vote.Signer, vote.Target, vote.Add)
		hear(x, vote, got)
		if got.Code == impl.OK {
			x = got.Snap
			x.Number++
			x.Recents = recentsUpTo(x.Number, min(int(x.Number), r.IntN(8)), all)
		}
	}
}

func TestP8CastVoteOfManyVotes(t *testing.T) {
	codes := map[int64]int{}
	for seed := range uint64(60) {
		walkSnaps(t, seed, 300, func(x impl.Snap, vote impl.Vote, got impl.SnapResult) {
			code, want := castAs(x, vote.Signer, vote.Target, vote.Add)
			wantSnap(t, "a vote of many", got, code, want)
			codes[code]++
		})
	}
	for _, code := range []int64{impl.OK, impl.ErrMany, impl.ErrFull} {
		if codes[code] == 0 {
			t.Errorf("the code %d did not come", code)
		}
	}
}

// wantVotesInBounds: there are never more votes on one than signers, and no two of one signer.
func wantVotesInBounds(t *testing.T, x impl.Snap, target []byte) {
	t.Helper()
	voters := votesOn(x, target)
	slices.SortFunc(voters, bytes.Compare)
	twice := len(slices.CompactFunc(slices.Clone(voters), bytes.Equal)) != len(voters)
	if twice || len(voters) > len(x.Signers) || impl.TallyOf(x, target).Value != int64(len(voters)) {
		t.Errorf("the votes on %v are of %v, the tally is %+v, the signers are %v", target, voters, impl.TallyOf(x, target), x.Signers)
	}
}

func TestP8WhateverIsVoted(t *testing.T) {
	came, went := 0, 0
	for seed := range uint64(60) {
		walkSnaps(t, 100+seed, 300, func(x impl.Snap, vote impl.Vote, got impl.SnapResult) {
			if got.Code != impl.OK {
				wantSnap(t, "beside a code", got, got.Code, impl.Snap{})
				return
			}
			if impl.SnapFault(got.Snap) != impl.OK {
				t.Fatalf("what comes of %+v with %+v has a fault: %+v", vote, x, got)
			}
			for _, target := range crowd() {
				wantVotesInBounds(t, got.Snap, target)
			}
			if moved := wantWhatMoreThanHalfWant(t, x, vote, got.Snap); moved && vote.Add {
				came++
			} else if moved {
				went++
			}
		})
	}
	if came < 50 || went < 50 {
		t.Errorf("%d came in and %d went alone", came, went)
	}
}

// wantWhatMoreThanHalfWant: just what more than half want comes to be; it tells whether one came or went.
func wantWhatMoreThanHalfWant(t *testing.T, x impl.Snap, vote impl.Vote, then impl.Snap) bool {
	t.Helper()
	wanted := len(votesOn(x, vote.Target))
	if !holds(votesOn(x, vote.Target), vote.Signer) {
		wanted++
	}
	open := vote.Add != holds(x.Signers, vote.Target)
	last := !vote.Add && len(x.Signers) == 1
	moves := open && !last && 2*wanted > len(x.Signers)
	want := slices.DeleteFunc(slices.Clone(x.Signers), func(signer []byte) bool { return moves && bytes.Equal(signer, vote.Target) })
	if moves && vote.Add {
		want = append(want, vote.Target)
	}
	wantSignersOf(t, "what more than half want", then, want)
	if moves && len(votesOn(then, vote.Target)) != 0 {
		t.Errorf("votes on %v are left: %+v", vote.Target, then)
	}
	return moves
}

func TestP8JustOneIsInTurn(t *testing.T) {
	for seed := range uint64(20) {
		walkSnaps(t, 200+seed, 100, func(x impl.Snap, vote impl.Vote, got impl.SnapResult) {
			for _, number := range []int64{0, x.Number, x.Number + 1, topNumber} {
				inTurn := 0
				for _, signer := range x.Signers {
					if impl.TurnOf(x, signer, number).Value == 2 {
						inTurn++
					}
				}
				if inTurn != 1 {
					t.Errorf("%d are in turn at %d: %+v", inTurn, number, x)
				}
			}
		})
	}
}
