package tests

import (
	"bytes"
	"slices"
	"testing"

	"loop.example/g00383/impl"
)

// commitsAs are the commits of each to a header, as the chapter says.
func commitsAs(h impl.Header, list [][]byte) [][]byte {
	hash := hashAs(h, h.Seal)
	var commits [][]byte
	for _, addr := range list {
		commits = append(commits, commitAs(addr, hash))
	}
	return commits
}

// committedAs is what the chapter says that a header is, once each of list has committed.
func committedAs(h impl.Header, list [][]byte) impl.Header {
	committed := cloneHeader(h)
	committed.Commits = commitsAs(h, list)
	return committed
}

func wantCommitters(t *testing.T, call string, h impl.Header, code int64, list [][]byte) {
	t.Helper()
	if got := impl.CommittersOf(h); got.Code != code || !equalLists(got.Signers, list) {
		t.Errorf("CommittersOf %s: %+v, want code %d and %v", call, got, code, list)
	}
}

// withCommits is the same header with other commits.
func withCommits(h impl.Header, commits [][]byte) impl.Header {
	return withChange(h, func(h *impl.Header) { h.Commits = cloneLists(commits) })
}

// The bytes were worked out apart from the program.
func TestP7CommitHeaderKnown(t *testing.T) {
	three := [][]byte{addr(1), addr(2), addr(3)}
	rows := []struct {
		h       impl.Header
		commits []string
	}{
		{bareHeader(), []string{"00000001 44eb76f4", "00000002 ee9af8cd", "00000003 72d8663f"}},
		{impl.SignHeader(bareHeader()).Header, []string{"00000001 6e3d8605", "00000002 2e536da7", "00000003 aa49841c"}},
		{knownHeader(), []string{"00000001 5171cfb0", "00000002 473a1663", "00000003 be4212e5"}},
		{impl.SignHeader(knownHeader()).Header, []string{"00000001 ed69e588", "00000002 d935beee", "00000003 85c7a116"}},
	}
	for _, row := range rows {
		want := cloneHeader(row.h)
		want.Commits = nil
		for _, commit := range row.commits {
			want.Commits = append(want.Commits, unhex(commit))
		}
		wantHeader(t, "CommitHeader", impl.CommitHeader(row.h, three), impl.OK, want)
		wantCommitters(t, "what is known", want, impl.OK, three)
	}
}

func TestP7CommitHeaderOfCounts(t *testing.T) {
	for _, h := range append(goodHeaders(), signedHeaders()...) {
		for n := range 8 {
			list := risingAddrs(n)
			got := impl.CommitHeader(h, list)
			wantHeader(t, "CommitHeader", got, impl.OK, committedAs(h, list))
			wantHeaderFault(t, "what is committed", got.Header, impl.OK)
			wantCommitters(t, "what CommitHeader gave", got.Header, impl.OK, list)
		}
		// None: the commits that were there are gone all the same.
		wantHeader(t, "CommitHeader of nil", impl.CommitHeader(h, nil), impl.OK, committedAs(h, nil))
		wantHeader(t, "CommitHeader of no one", impl.CommitHeader(h, [][]byte{}), impl.OK, committedAs(h, nil))
		wantHeader(t, "CommitHeader of 8", impl.CommitHeader(h, risingAddrs(8)), impl.ErrMany, impl.Header{})
		wantHeader(t, "CommitHeader of many", impl.CommitHeader(h, make([][]byte, 1000)), impl.ErrMany, impl.Header{})
	}
}

// faultyLists are such as have a SignersFault, with it.
func faultyLists() []struct {
	code int64
	list [][]byte
} {
	three, five := risingAddrs(3), risingAddrs(3)
	three[1], five[2] = three[1][:3], append(five[2], 0)
	return []struct {
		code int64
		list [][]byte
	}{
		{impl.ErrForm, [][]byte{addr(2), addr(1)}},
		{impl.ErrForm, [][]byte{addr(1), addr(3), addr(2)}},
		{impl.ErrForm, [][]byte{addr(1), addr(1)}},
		{impl.ErrForm, [][]byte{addr(1), addr(2), addr(2)}},
		{impl.ErrForm, [][]byte{fill(3)}},
		{impl.ErrForm, [][]byte{fill(5)}},
		{impl.ErrForm, [][]byte{nil}},
		{impl.ErrForm, three},
		{impl.ErrForm, five},
		{impl.ErrMany, risingAddrs(8)},
		{impl.ErrMany, make([][]byte, 8)},
	}
}

func TestP7CommitHeaderFaults(t *testing.T) {
	for _, good := range append(goodHeaders(), signedHeaders()...) {
		for _, row := range faultyLists() {
			wantHeader(t, "CommitHeader of a list with a fault", impl.CommitHeader(good, row.list), row.code, impl.Header{})
		}
		for _, row := range headerFaultChanges() {
			h := withChange(good, row.change)
			for _, n := range []int{0, 1, 7} {
				wantHeader(t, "CommitHeader of one with a fault", impl.CommitHeader(h, risingAddrs(n)), row.code, impl.Header{})
			}
			// The header is asked first, whatever the list is.
			for _, other := range faultyLists() {
				wantHeader(t, "CommitHeader of two faults", impl.CommitHeader(h, other.list), row.code, impl.Header{})
			}
		}
	}
	wantHeader(t, "CommitHeader of nothing", impl.CommitHeader(impl.Header{}, nil), impl.ErrForm, impl.Header{})
}

func TestP7CommitHeaderLeavesTheRest(t *testing.T) {
	list := [][]byte{addr(0), addr(1), {127, 0, 0, 0}, {128, 0, 0, 0}, {255, 255, 255, 255}}
	for _, h := range manyHeaders(300) {
		got := impl.CommitHeader(h, list)
		wantHeader(t, "CommitHeader", got, impl.OK, committedAs(h, list))
		wantCommitters(t, "what CommitHeader gave", got.Header, impl.OK, list)
		// Those that were there are gone, be they right or not.
		wantHeader(t, "CommitHeader of the same, again", impl.CommitHeader(got.Header, list), impl.OK, got.Header)
		wantHeader(t, "CommitHeader of others, then", impl.CommitHeader(got.Header, list[1:3]), impl.OK, committedAs(h, list[1:3]))
		wantHeader(t, "CommitHeader of no one, then", impl.CommitHeader(got.Header, nil), impl.OK, committedAs(h, nil))
		for i, addr := range list {
			wantBytes(t, "CommitOf", impl.CommitOf(addr, impl.HashOf(h).Bytes), impl.OK, got.Header.Commits[i])
		}
	}
}

// The signer of a header may commit to it, and so may any other.
func TestP7CommittersNeedNotBeSigners(t *testing.T) {
	for _, signed := range signedHeaders() {
		own := [][]byte{signed.Signer}
		wantCommitters(t, "one that its signer committed", impl.CommitHeader(signed, own).Header, impl.OK, own)
		wantCommitters(t, "one that another committed", impl.CommitHeader(signed, [][]byte{addr(0x77777777)}).Header, impl.OK, [][]byte{addr(0x77777777)})
	}
}

func TestP7CommitsChangeNoHash(t *testing.T) {
	for _, h := range append(manyHeaders(100), signedHeaders()...) {
		for n := range 8 {
			committed := impl.CommitHeader(h, risingAddrs(n)).Header
			wantBytes(t, "HashOf with commits", impl.HashOf(committed), impl.OK, hashAs(h, h.Seal))
			wantBytes(t, "SealHash with commits", impl.SealHash(committed), impl.OK, hashAs(h, nil))
			other := withCommits(h, someCommits(n))
			wantBytes(t, "HashOf with wrong commits", impl.HashOf(other), impl.OK, hashAs(h, h.Seal))
		}
	}
}

func TestP7CommittersOfNone(t *testing.T) {
	for _, h := range append(goodHeaders(), signedHeaders()...) {
		h.Commits = nil
		wantCommitters(t, "no commits", h, impl.OK, nil)
		h.Commits = [][]byte{}
		wantCommitters(t, "an empty list of commits", h, impl.OK, nil)
	}
}

func TestP7CommittersOfOneBitChanged(t *testing.T) {
	for _, h := range append(goodHeaders(), signedHeaders()...) {
		for _, count := range []int{1, 2, 7} {
			for _, place := range []int{0, count / 2, count - 1} {
				for bit := range 64 {
					changed := committedAs(h, risingAddrs(count))
					changed.Commits[place] = flipped(changed.Commits[place], bit)
					wantCommitters(t, "a commit with a bit changed", changed, impl.ErrSign, nil)
				}
			}
		}
	}
}

func TestP7CommittersOfAnotherHash(t *testing.T) {
	list := risingAddrs(7)
	for _, h := range append(goodHeaders(), signedHeaders()...) {
		other := withChange(h, func(h *impl.Header) { h.Time = 12345 })
		unsealed := withChange(h, func(h *impl.Header) { h.Seal = nil })
		hash := hashAs(h, h.Seal)
		for place, who := range list {
			wrong := [][]byte{
				commitAs(who, hashAs(other, other.Seal)), commitAs(who, hash[:31]), commitAs(who, h.Parent), slices.Concat(who, sealAs(who, hash)),
				slices.Concat(who, make([]byte, 4)), slices.Concat(who, commitAs(addr(99), hash)[4:]), slices.Concat(addr(99), commitAs(who, hash)[4:]), make([]byte, 8),
			}
			if len(h.Seal) > 0 {
				wrong = append(wrong, commitAs(who, hashAs(unsealed, nil)))
			}
			for _, commit := range wrong {
				changed := committedAs(h, list)
				changed.Commits[place] = commit
				wantCommitters(t, "a commit to something else", changed, impl.ErrSign, nil)
				wantCommitters(t, "that commit alone", withCommits(h, [][]byte{commit}), impl.ErrSign, nil)
			}
		}
	}
}

// A commit is to all that is hashed: the seal too.
func TestP7CommittersOfChangedHeaders(t *testing.T) {
	list := risingAddrs(2)
	for _, h := range []impl.Header{fullHeader(), someHeader(), signedAs(fullHeader()), signedAs(someHeader())} {
		committed := committedAs(h, list)
		for _, changes := range []map[string]func(h *impl.Header){fieldChanges(), sealChanges()} {
			for name, change := range changes {
				changed := withChange(committed, change)
				wantCommitters(t, "one whose "+name+" is changed", changed, impl.ErrSign, nil)
				wantCommitters(t, "one that is committed again behind "+name, impl.CommitHeader(changed, list).Header, impl.OK, list)
			}
		}
	}
}

func TestP7CommittersStandAsTheirCommitsDo(t *testing.T) {
	for _, h := range append(goodHeaders(), signedHeaders()...) {
		list := risingAddrs(7)
		for range 7 {
			list = append(list[1:], list[0])
			wantCommitters(t, "commits that are turned", withCommits(h, commitsAs(h, list)), impl.OK, list)
		}
		slices.Reverse(list)
		wantCommitters(t, "commits that fall", withCommits(h, commitsAs(h, list)), impl.OK, list)
		for at := range 6 {
			around := risingAddrs(7)
			around[at], around[at+1] = around[at+1], around[at]
			wantCommitters(t, "two commits the other way around", withCommits(h, commitsAs(h, around)), impl.OK, around)
		}
	}
}

// eachTwoOfOne hands out lists of commits that are right, with two of one at each two places.
func eachTwoOfOne(h impl.Header, hear func(commits [][]byte, first int, second int)) {
	for count := 2; count <= 7; count++ {
		for second := 1; second < count; second++ {
			for first := range second {
				list := risingAddrs(count)
				list[second] = list[first]
				hear(commitsAs(h, list), first, second)
			}
		}
	}
}

func TestP7CommittersTwoOfOne(t *testing.T) {
	for _, h := range append(goodHeaders(), signedHeaders()...) {
		eachTwoOfOne(h, func(commits [][]byte, first int, second int) {
			wantCommitters(t, "two of one", withCommits(h, commits), impl.ErrTaken, nil)
		})
		all := slices.Repeat([][]byte{commitsAs(h, risingAddrs(1))[0]}, 7)
		wantCommitters(t, "all of one", withCommits(h, all), impl.ErrTaken, nil)
	}
}

// All commits are asked whether they are borne ahead of whether two are of one.
func TestP7CommittersTheFirstCode(t *testing.T) {
	for _, h := range append(goodHeaders(), signedHeaders()...) {
		eachTwoOfOne(h, func(commits [][]byte, first int, second int) {
			for wrong := range commits {
				changed := cloneLists(commits)
				changed[wrong] = flipped(changed[wrong], 63)
				wantCommitters(t, "two of one, and one that is wrong", withCommits(h, changed), impl.ErrSign, nil)
			}
			both := cloneLists(commits)
			both[first], both[second] = flipped(both[first], 40), flipped(both[second], 40)
			wantCommitters(t, "two of one that are wrong", withCommits(h, both), impl.ErrSign, nil)
		})
		one := commitsAs(h, risingAddrs(1))[0]
		wrong := flipped(commitAs(addr(0x7a), hashAs(h, h.Seal)), 50)
		wantCommitters(t, "a wrong one behind two of one", withCommits(h, [][]byte{one, one, wrong}), impl.ErrSign, nil)
		wantCommitters(t, "a wrong one ahead of two of one", withCommits(h, [][]byte{wrong, one, one}), impl.ErrSign, nil)
		wantCommitters(t, "a wrong one between two of one", withCommits(h, [][]byte{one, wrong, one}), impl.ErrSign, nil)
	}
}

func TestP7CommittersFaults(t *testing.T) {
	for _, good := range append(goodHeaders(), signedHeaders()...) {
		one := commitsAs(good, risingAddrs(1))[0]
		// Right, wrong and two of one: the fault of the header comes ahead of what its commits are.
		for _, commits := range [][][]byte{nil, {one}, {flipped(one, 0)}, {one, one}} {
			for _, row := range headerFaultChanges() {
				h := withChange(withCommits(good, commits), row.change)
				wantCommitters(t, "one with a fault", h, row.code, nil)
			}
		}
		wantCommitters(t, "the same commit 8 times", withCommits(good, slices.Repeat([][]byte{one}, 8)), impl.ErrMany, nil)
		for _, n := range []int{0, 3, 4, 7, 9} {
			cut := append(bytes.Clone(one), 0)[:n]
			wantCommitters(t, "a commit of a wrong length", withCommits(good, [][]byte{one, cut}), impl.ErrForm, nil)
			wantCommitters(t, "a commit of a wrong length behind a wrong one", withCommits(good, [][]byte{flipped(one, 9), cut}), impl.ErrForm, nil)
		}
	}
	wantCommitters(t, "nothing", impl.Header{}, impl.ErrForm, nil)
}

// A header is signed, committed, written and read back: it still tells who it is of.
func TestP7SignedAndCommittedHeadersAreReadBack(t *testing.T) {
	for _, h := range manyHeaders(200) {
		list := risingAddrs(1 + len(h.Signers)%7)
		committed := impl.CommitHeader(impl.SignHeader(h).Header, list).Header
		read := impl.UnpackHeader(impl.PackHeader(committed).Bytes)
		wantHeader(t, "what was read", read, impl.OK, committed)
		wantSealRight(t, "what was read", read.Header, true)
		wantCommitters(t, "what was read", read.Header, impl.OK, list)
	}
}
