package tests

import (
	"bytes"
	"math/rand/v2"
	"slices"
	"testing"

	"loop.example/g00383/impl"
)

// blockBy is a header of the next block, as far as ApplyNext looks at it: nothing else in it is right.
func blockBy(x impl.Snap, signer []byte, target []byte, nonce int64) impl.Header {
	h := bareHeader()
	h.Number, h.Signer, h.Target, h.Nonce = x.Number+1, bytes.Clone(signer), bytes.Clone(target), nonce
	return h
}

// rare is a setting without a checkpoint at 1001, and often one with it.
func rare(mode int64) impl.Config {
	return impl.Config{Mode: mode, Period: 5, Epoch: 9}
}

func often(mode int64) impl.Config {
	return impl.Config{Mode: mode, Period: 5, Epoch: 7}
}

// wantApplied: what ApplyNext tells is that, and that is what the chapter says.
func wantApplied(t *testing.T, call string, c impl.Config, x impl.Snap, h impl.Header, code int64, want impl.Snap) {
	t.Helper()
	if told, snap := applyNextAs(c, x, h); told != code || !equalSnaps(snap, want) {
		t.Fatalf("%s: by the chapter it is %d and %+v, the test wants %d and %+v", call, told, snap, code, want)
	}
	got := impl.ApplyNext(c, x, h)
	wantSnap(t, "ApplyNext of "+call, got, code, want)
	if code == impl.OK && impl.SnapFault(got.Snap) != impl.OK {
		t.Errorf("ApplyNext of %s has a fault: %+v", call, got.Snap)
	}
}

// signedBy is the snapshot behind the block 1001, where nothing was voted on.
func signedBy(x impl.Snap, signer []byte, kept ...impl.Recent) impl.Snap {
	return withSnap(x, func(x *impl.Snap) {
		x.Number, x.Recents = 1001, append(slices.Clone(kept), impl.Recent{Number: 1001, Signer: bytes.Clone(signer)})
	})
}

func TestP10ApplyNextPlain(t *testing.T) {
	for _, mode := range modes() {
		for n := 1; n <= 7; n++ {
			x := plainSnap(n)
			for _, signer := range x.Signers {
				for _, c := range []impl.Config{rare(mode), often(mode)} {
					wantApplied(t, "a block without a vote", c, x, blockBy(x, signer, nil, impl.NonceNone), impl.OK, signedBy(x, signer))
				}
			}
		}
	}
}

func TestP10ApplyNextOfNumbers(t *testing.T) {
	for _, mode := range modes() {
		for _, number := range []int64{0, 1, 1000, topNumber - 1, topNumber} {
			x := impl.Snap{Number: number, Signers: risingAddrs(3)}
			for _, next := range []int64{0, number - 1, number, number + 1, number + 2, topNumber} {
				h := withChange(blockBy(x, addr(1), nil, impl.NonceNone), func(h *impl.Header) { h.Number = next })
				if next == number+1 && next <= topNumber {
					want := impl.Snap{Number: next, Signers: x.Signers, Recents: []impl.Recent{{Number: next, Signer: addr(1)}}}
					wantApplied(t, "the next Number", rare(mode), x, h, impl.OK, want)
				} else {
					wantApplied(t, "another Number", rare(mode), x, h, impl.ErrRange, impl.Snap{})
				}
			}
		}
	}
}

func TestP10ApplyNextOfStrangers(t *testing.T) {
	for _, c := range []impl.Config{rare(1), rare(2), often(1), often(2)} {
		for _, x := range ruleSnaps() {
			for _, who := range [][]byte{outsider(0), addr(0), addr(0x99), {255, 255, 255, 255}} {
				wantApplied(t, "a stranger", c, x, blockBy(x, who, nil, impl.NonceNone), impl.ErrNone, impl.Snap{})
				wantApplied(t, "a stranger who votes", c, x, blockBy(x, who, outsider(1), impl.NonceAdd), impl.ErrNone, impl.Snap{})
			}
		}
	}
}

// applyFaults stand in the order in which they are asked.
func applyFaults() []nextFault {
	rows := slices.DeleteFunc(faultsOfParts(), func(row nextFault) bool { return row.stage == 2 })
	return append(rows,
		nextFault{4, impl.ErrRange, func(d *draft) { d.next.Number-- }},
		nextFault{4, impl.ErrRange, func(d *draft) { d.next.Number++ }},
		nextFault{5, impl.ErrNone, func(d *draft) { d.next.Signer = outsider(0) }},
	)
}

func TestP10ApplyNextTheFirstCode(t *testing.T) {
	ask := func(d draft, code int64) {
		d = d.finished()
		wantApplied(t, "faults", d.config, d.snap, d.next, code, impl.Snap{})
	}
	for _, mode := range modes() {
		for _, x := range []impl.Snap{busySnap(), someSnap()} {
			d := draftOf(mode, x, x.Signers[1], mode == impl.ModeTurns)
			rows := applyFaults()
			for i, a := range rows {
				ask(d.with(a.change), a.code)
				for _, b := range rows[i+1:] {
					if a.stage < b.stage {
						ask(d.with(b.change, a.change), a.code)
					}
				}
			}
		}
	}
}

// What CheckNext asks besides is not asked here: what was checked is not checked again.
func TestP10ApplyNextAsksNothingElse(t *testing.T) {
	for _, mode := range modes() {
		for _, checkpoint := range []bool{false, true} {
			x := someSnap()
			d := draftOf(mode, x, x.Signers[0], checkpoint)
			code, want := applyNextAs(d.config, x, d.finished().next)
			for _, change := range []func(h *impl.Header){
				func(h *impl.Header) { h.Parent = make([]byte, 32) }, func(h *impl.Header) { h.Time = 0 }, func(h *impl.Header) { h.Hard = 9 },
				func(h *impl.Header) { h.Seal = nil }, func(h *impl.Header) { h.Commits = someCommits(7) }, func(h *impl.Header) { h.Commits = nil },
				func(h *impl.Header) { h.Signers = nil }, func(h *impl.Header) { h.Signers = [][]byte{outsider(4)} }, func(h *impl.Header) { h.Receipts = fill(32) },
				func(h *impl.Header) { h.Nonce = impl.NonceAdd }, func(h *impl.Header) { h.Nonce = impl.NonceDrop },
			} {
				h := withChange(d.finished().next, change)
				wantApplied(t, "what may not follow", d.config, x, h, code, want)
			}
		}
	}
}

// Recents that are just kept, and just dropped, for each number of signers.
func TestP10ApplyNextOfRecents(t *testing.T) {
	for n, far := range map[int]int64{1: 1, 2: 2, 3: 2, 4: 3, 5: 3, 6: 4, 7: 4} {
		signer := risingAddrs(n)[n-1]
		for back := int64(1); back <= 8; back++ {
			x := plainSnap(n)
			x.Recents = []impl.Recent{{Number: 1001 - back, Signer: addr(0x99)}}
			want := signedBy(x, signer)
			if back < far {
				want = signedBy(x, signer, x.Recents...)
			}
			wantApplied(t, "one Recent", rare(impl.ModeTurns), x, blockBy(x, signer, nil, 0), impl.OK, want)
			wantApplied(t, "one Recent at a checkpoint", often(impl.ModeCommits), x, blockBy(x, signer, nil, 0), impl.OK, want)
		}
		for count := range 8 {
			x := plainSnap(n)
			x.Recents = recentsUpTo(1000, count, x.Signers)
			kept := x.Recents[max(0, count-int(far)+1):]
			for _, c := range []impl.Config{rare(1), rare(2), often(1), often(2)} {
				wantApplied(t, "some Recents", c, x, blockBy(x, signer, nil, 0), impl.OK, signedBy(x, signer, kept...))
			}
		}
	}
	// At the first blocks nothing is far enough back.
	first := impl.Snap{Number: 1, Signers: risingAddrs(7), Recents: []impl.Recent{{Number: 0, Signer: addr(1)}, {Number: 1, Signer: addr(7)}}}
	want := withSnap(first, func(x *impl.Snap) {
		x.Number, x.Recents = 2, append(x.Recents, impl.Recent{Number: 2, Signer: addr(1)})
	})
	wantApplied(t, "the first blocks", rare(1), first, blockBy(first, addr(1), nil, 0), impl.OK, want)
}

func TestP10ApplyNextOfCheckpoints(t *testing.T) {
	for _, mode := range modes() {
		for _, x := range []impl.Snap{busySnap(), someSnap(), votedBy(plainSnap(5), 2, outsider(3), true), votedBy(plainSnap(1), 1, addr(1), false)} {
			for _, signer := range x.Signers {
				h := blockBy(x, signer, nil, impl.NonceNone)
				_, want := applyNextAs(rare(mode), x, h)
				if !equalVotes(want.Votes, x.Votes) {
					t.Fatal("votes are gone elsewhere")
				}
				wantApplied(t, "a block with votes", rare(mode), x, h, impl.OK, want)
				want.Votes = nil
				wantApplied(t, "a checkpoint with votes", often(mode), x, h, impl.OK, want)
			}
		}
	}
	for epoch := int64(1); epoch <= 100; epoch++ {
		x := someSnap()
		got := impl.ApplyNext(impl.Config{Mode: 1 + epoch%2, Period: 1, Epoch: epoch}, x, blockBy(x, x.Signers[0], nil, 0))
		if gone := len(got.Snap.Votes) == 0; got.Code != impl.OK || gone != (1001%epoch == 0) {
			t.Errorf("at 1001 with the Epoch %d: code %d, the votes are gone: %v", epoch, got.Code, gone)
		}
	}
}

func TestP10ApplyNextOfVotes(t *testing.T) {
	x := plainSnap(5)
	a, b := x.Signers[0], x.Signers[1]
	for _, mode := range modes() {
		c := rare(mode)
		add := blockBy(x, a, outsider(1), impl.NonceAdd)
		wantApplied(t, "a first vote to add", c, x, add, impl.OK, withVotes(signedBy(x, a), voteOf(a, outsider(1), true)))
		drop := blockBy(x, a, b, impl.NonceDrop)
		wantApplied(t, "a first vote not to add", c, x, drop, impl.OK, withVotes(signedBy(x, a), voteOf(a, b, false)))
		// Whatever is not NonceAdd is not to add.
		none := blockBy(x, a, b, impl.NonceNone)
		wantApplied(t, "a vote with no Nonce", c, x, none, impl.OK, withVotes(signedBy(x, a), voteOf(a, b, false)))
		wantApplied(t, "a vote with no Nonce on one that is none", c, x, blockBy(x, a, outsider(1), impl.NonceNone), impl.OK, signedBy(x, a))
		wantApplied(t, "a Nonce without a vote", c, x, blockBy(x, a, nil, impl.NonceAdd), impl.OK, signedBy(x, a))
		wantApplied(t, "add for one that is there", c, x, blockBy(x, a, b, impl.NonceAdd), impl.OK, signedBy(x, a))
		voted := withVotes(x, voteOf(b, outsider(1), true), voteOf(a, outsider(1), true), voteOf(a, b, false))
		back := blockBy(x, a, outsider(1), impl.NonceDrop)
		wantApplied(t, "a vote that is taken back", c, voted, back, impl.OK, withVotes(signedBy(x, a), voted.Votes[0], voted.Votes[2]))
		other := blockBy(x, a, b, impl.NonceAdd)
		wantApplied(t, "another vote that is taken back", c, voted, other, impl.OK, withVotes(signedBy(x, a), voted.Votes[:2]...))
		again := blockBy(x, a, outsider(1), impl.NonceAdd)
		wantApplied(t, "the same vote again", c, voted, again, impl.OK, withVotes(signedBy(x, a), voted.Votes[0], voted.Votes[2], voted.Votes[1]))
	}
}

func TestP10ApplyNextOfVotesThatWin(t *testing.T) {
	for n, need := range enough() {
		x := plainSnap(n)
		signer := x.Signers[need-1]
		if n < 7 {
			ready := votedBy(x, need-1, outsider(1), true)
			want := withSnap(signedBy(x, signer), func(x *impl.Snap) { x.Signers = slices.Insert(x.Signers, 1, outsider(1)) })
			wantApplied(t, "a vote by which one comes in", rare(1), ready, blockBy(x, signer, outsider(1), impl.NonceAdd), impl.OK, want)
		}
		target := x.Signers[n-1]
		ready := votedBy(x, need-1, target, false)
		ready.Recents = recentsUpTo(1000, 7, x.Signers)
		// Those ahead are kept as of n signers, and then cut to half of those that are left.
		all := append(slices.Clone(ready.Recents), impl.Recent{Number: 1001, Signer: signer})
		left := (n - 1) / 2
		want := impl.Snap{Number: 1001, Signers: x.Signers[:n-1], Recents: all[len(all)-left:]}
		if n == 1 {
			want = impl.Snap{Number: 1001, Signers: x.Signers, Recents: all[7:], Votes: []impl.Vote{voteOf(addr(1), addr(1), false)}}
		}
		for _, nonce := range []int64{impl.NonceNone, impl.NonceDrop} {
			wantApplied(t, "a vote by which one goes", rare(2), ready, blockBy(x, signer, target, nonce), impl.OK, want)
		}
	}
}

// A vote for which there is no room changes nothing; the block is signed all the same.
func TestP10ApplyNextOfVotesWithACode(t *testing.T) {
	for _, mode := range modes() {
		busy := busySnap()
		for at, signer := range busy.Signers {
			_, want := applyNextAs(rare(mode), busy, blockBy(busy, signer, nil, 0))
			wantApplied(t, "a 31st vote to add", rare(mode), busy, blockBy(busy, signer, outsider(99), impl.NonceAdd), impl.OK, want)
			if len(want.Votes) != 30 || want.Number != 1001 || !bytes.Equal(want.Recents[len(want.Recents)-1].Signer, signer) {
				t.Fatalf("the block is not signed: %+v", want)
			}
			if at > 2 {
				wantApplied(t, "a 31st vote not to add", rare(mode), busy, blockBy(busy, signer, busy.Signers[0], impl.NonceDrop), impl.OK, want)
			}
			// At a checkpoint there is room again.
			marked := withVotes(want, voteOf(signer, outsider(99), true))
			wantApplied(t, "a first vote of a new epoch", often(mode), busy, blockBy(busy, signer, outsider(99), impl.NonceAdd), impl.OK, marked)
		}
		full := votedBy(plainSnap(7), 3, outsider(1), true)
		for _, signer := range full.Signers[3:] {
			wantApplied(t, "an eighth", rare(mode), full, blockBy(full, signer, outsider(1), impl.NonceAdd), impl.OK, signedBy(full, signer))
		}
		// A vote of one's own that would be gone ahead of that stays too.
		many := votedBy(plainSnap(7), 4, outsider(1), true)
		wantApplied(t, "an eighth, again", rare(mode), many, blockBy(many, many.Signers[0], outsider(1), impl.NonceAdd), impl.OK, signedBy(many, many.Signers[0]))
	}
}

// A vote at a checkpoint: all others are gone ahead of it.
func TestP10ApplyNextOfVotesAtACheckpoint(t *testing.T) {
	for n, need := range enough() {
		x := votedBy(plainSnap(n), max(1, need-1), outsider(1), true)
		x.Votes = append(x.Votes, voteOf(x.Signers[0], x.Signers[n-1], false))
		signer := x.Signers[need-1]
		h := blockBy(x, signer, outsider(1), impl.NonceAdd)
		want := withVotes(signedBy(x, signer), voteOf(signer, outsider(1), true))
		if n == 1 {
			want = withVotes(withSnap(want, func(x *impl.Snap) { x.Signers = append(x.Signers, outsider(1)) }))
		}
		wantApplied(t, "a vote at a checkpoint", often(1), x, h, impl.OK, want)
		back := blockBy(x, x.Signers[0], outsider(1), impl.NonceDrop)
		wantApplied(t, "one taken back at a checkpoint", often(2), x, back, impl.OK, withVotes(signedBy(x, x.Signers[0])))
	}
}

// Long runs of blocks, of anyone and of any vote: what comes of each is what the chapter says.
func TestP10ApplyNextAsTold(t *testing.T) {
	codes, won, marks := map[int64]int{}, 0, 0
	for seed := range uint64(30) {
		r := rand.New(rand.NewPCG(93, seed))
		all := crowd()
		x := impl.NewSnap(chosen(all, 1+r.IntN(127))).Snap
		x.Number = r.Int64N(1 << r.IntN(40))
		among := 2 + r.IntN(len(all)-1)
		for range 200 {
			c := impl.Config{Mode: 1 + r.Int64N(2), Period: 1 + r.Int64N(100), Epoch: 20 + r.Int64N(81)}
			h := blockBy(x, x.Signers[r.IntN(len(x.Signers))], nil, r.Int64N(3))
			if r.IntN(10) > 0 {
				h.Target = bytes.Clone(all[r.IntN(among)])
			}
			if r.IntN(20) == 0 {
				h.Number += r.Int64N(3) - 1
			}
			if r.IntN(20) == 0 {
				h.Signer = all[r.IntN(len(all))]
			}
			code, want := applyNextAs(c, x, h)
			wantSnap(t, "ApplyNext", impl.ApplyNext(c, x, h), code, want)
			codes[code]++
			if code != impl.OK {
				continue
			}
			if !equalLists(want.Signers, x.Signers) {
				won++
			}
			if isMark(c, h.Number) {
				marks++
			}
			x = want
		}
	}
	if codes[impl.OK] < 1000 || codes[impl.ErrRange] < 50 || codes[impl.ErrNone] < 20 || won < 100 || marks < 50 {
		t.Errorf("the codes %v, %d came or went, %d checkpoints", codes, won, marks)
	}
}
