package tests

import (
	"bytes"
	"fmt"
	"slices"
	"testing"

	"loop.example/g00383/impl"
)

func nextLine(place int, signer int, target int, add int) string {
	return fmt.Sprintf("next %d %d %d %d", place, signer, target, add)
}

// The known store, header by header, by the places of entries and of signers: the hashes were worked out apart from the program.
func TestP17StepScriptNext(t *testing.T) {
	for _, mode := range modes() {
		s := knownStore(mode)
		for size := range int64(6) {
			c := beginningOf(s, size)
			// The fourth one is at a checkpoint: it says who the signers are, and nothing of 7.
			for at, line := range []string{"next 0 1 9 1", "next 1 0 2 0", "next 0 2 0 0", "next 2 2 7 1", "next 3 1 0 1"} {
				c = wantStep(t, c, line, impl.OK, "joined 1")
				wantSameStore(t, c.Store, withStore(s, func(s *impl.Store) { s.Entries = s.Entries[:at+2] }))
				wantStep(t, c, line, impl.ErrTaken, "")
			}
			wantClientSaid(t, "what is known", c)
		}
	}
}

// wantMadeOf: the last entry of a client is behind that of a place, of that signer, with that Target and Nonce.
func wantMadeOf(t *testing.T, line string, c impl.Client, place int, signer []byte, target []byte, nonce int64) {
	t.Helper()
	last := c.Store.Entries[len(c.Store.Entries)-1]
	if last.Up != int64(place) || !bytes.Equal(last.Header.Signer, signer) || !bytes.Equal(last.Header.Target, target) || last.Header.Nonce != nonce {
		t.Errorf("%s: %+v, want it behind %d, of %x, with %x and %d", line, last, place, signer, target, nonce)
	}
}

// The first signer, the last one and those between; a third number of 0, of 1, of 255; a fourth of 0 and of 1.
func TestP17StepScriptNextOfEachNumber(t *testing.T) {
	for _, mode := range modes() {
		for count := 1; count <= 7; count++ {
			signers := risingAddrs(count)
			c := impl.NewClient(impl.Config{Mode: mode, Period: 3, Epoch: 90}, impl.GenesisOf(signers, fill(32)).Header, 2).Client
			for place, signer := range signers {
				for _, target := range []int{0, 1, 2, 9, 128, 254, 255} {
					for add := range 2 {
						line := nextLine(0, place, target, add)
						then := wantStep(t, c, line, impl.OK, "joined 1")
						aim, nonce := []byte{0, 0, 0, byte(target)}, int64(2-add)
						if target == 0 {
							aim, nonce = nil, 0
						}
						wantMadeOf(t, line, then, 0, signer, aim, nonce)
					}
				}
			}
			for _, none := range []int{count, count + 1, 8, 255, 256, 9999} {
				wantSteps(t, c, impl.ErrNone, nextLine(0, none, 0, 0), nextLine(0, none, 255, 1))
			}
			for _, over := range []int{256, 257, 511, 512, 999, 1000, 9999} {
				wantSteps(t, c, impl.ErrRange, nextLine(0, 0, over, 0), nextLine(0, 0, over, 1), nextLine(0, count-1, over, 1))
			}
			for _, over := range []int{2, 3, 9, 10, 256, 257, 9999} {
				wantSteps(t, c, impl.ErrRange, nextLine(0, 0, 0, over), nextLine(0, 0, 1, over), nextLine(0, count-1, 255, over))
			}
			for _, none := range []int{1, 2, 24, 255, 9999} {
				wantSteps(t, c, impl.ErrNone, nextLine(none, 0, 0, 0), nextLine(none, 0, 255, 1))
			}
		}
	}
}

// Behind each entry of stores of any shape: of all signers that one has there, those who came in by votes too; who is recent may not.
func TestP17StepScriptNextBehindEach(t *testing.T) {
	told := map[int64]int{}
	for _, count := range []int{2, 9, 23} {
		for i, g := range someGroves(t, count) {
			c := clientOf(g.store, strays(i%7), int64(i%6))
			for place, x := range g.snaps {
				if count > 2 && (place+i)%3 > 0 {
					continue
				}
				for signer := range len(x.Signers) + 1 {
					line := nextLine(place, signer, 3*signer, signer%2)
					want := stepAs(c, line)
					then := wantStep(t, c, line, want.Code, want.Said)
					told[want.Code]++
					free := slices.ContainsFunc(g.free(place), func(addr []byte) bool { return signer < len(x.Signers) && bytes.Equal(addr, x.Signers[signer]) })
					switch {
					case signer == len(x.Signers) && want.Code != impl.ErrNone, signer < len(x.Signers) && !free && want.Code != impl.ErrRule, free && count == 23 && want.Code != impl.ErrFull, free && count < 23 && want.Code != impl.OK:
						t.Errorf("%s of %d signers: %d, and it is free: %v", line, len(x.Signers), want.Code, free)
					case want.Code == impl.OK:
						wantAll(t, line, then, append(headersOf(g.store), then.Store.Entries[count+1].Header), strays(i%7), keptPlaces(then.Cache)...)
					}
				}
			}
		}
	}
	for _, code := range []int64{impl.OK, impl.ErrNone, impl.ErrRule, impl.ErrFull} {
		if told[code] < 10 {
			t.Errorf("the code %d was told %d times", code, told[code])
		}
	}
}

// What comes of votes: the signers' places are other ones.
func TestP17StepScriptNextOfSignersThatChange(t *testing.T) {
	for _, mode := range modes() {
		three := [][]byte{addr(2), addr(5), addr(7)}
		c := impl.NewClient(impl.Config{Mode: mode, Period: 1, Epoch: 90}, impl.GenesisOf(three, fill(32)).Header, 2).Client
		// Two of three want 6, which then stands at the place 2; and 1, which then stands at the place 0.
		c = wantStep(t, c, "next 0 0 6 1", impl.OK, "joined 1")
		c = wantStep(t, c, "next 1 1 6 1", impl.OK, "joined 1")
		wantStep(t, c, "snap 2", impl.OK, "snap 2 of 00000002 00000005 00000006 00000007 recents 1 00000002 2 00000005 votes")
		c = wantStep(t, c, "next 2 3 1 1", impl.OK, "joined 1")
		wantMadeOf(t, "the last of four", c, 2, addr(7), addr(1), impl.NonceAdd)
		c = wantStep(t, c, "next 3 2 1 1", impl.OK, "joined 1")
		wantMadeOf(t, "the third of four", c, 3, addr(6), addr(1), impl.NonceAdd)
		c = wantStep(t, c, "next 4 0 1 1", impl.OK, "joined 1")
		wantMadeOf(t, "the first of four", c, 4, addr(2), addr(1), impl.NonceAdd)
		wantStep(t, c, "snap 5", impl.OK, "snap 5 of 00000001 00000002 00000005 00000006 00000007 recents 3 00000007 4 00000006 5 00000002 votes")
		c = wantStep(t, c, "next 5 0 7 0", impl.OK, "joined 1")
		wantMadeOf(t, "the first of five", c, 5, addr(1), addr(7), impl.NonceDrop)
		wantSteps(t, c, impl.ErrNone, "next 5 5 0 0", "next 4 4 0 0", "next 0 3 0 0")
		wantStep(t, c, "snap 6", impl.OK, "snap 6 of 00000001 00000002 00000005 00000006 00000007 recents 4 00000006 5 00000002 6 00000001 votes 00000001 -00000007")
	}
}

// In ModeTurns one that is recent may not, in ModeCommits it may.
func TestP17StepScriptNextOfARecentSigner(t *testing.T) {
	for _, mode := range modes() {
		c := impl.NewClient(impl.Config{Mode: mode, Period: 1, Epoch: 90}, impl.GenesisOf(risingAddrs(4), fill(32)).Header, 2).Client
		c = wantStep(t, c, "next 0 0 0 0", impl.OK, "joined 1")
		c = wantStep(t, c, "next 1 1 0 0", impl.OK, "joined 1")
		for _, line := range []string{"next 1 0 0 0", "next 2 0 0 0", "next 2 1 0 0"} {
			if mode == impl.ModeTurns {
				wantStep(t, c, line, impl.ErrRule, "")
			} else {
				wantStep(t, c, line, impl.OK, "joined 1")
			}
		}
		c = wantStep(t, c, "next 2 2 0 0", impl.OK, "joined 1")
		wantStep(t, c, "next 3 0 0 0", impl.OK, "joined 1")
		// The block 0 was signed by nobody who would be recent.
		wantStep(t, c, "next 0 0 8 1", impl.OK, "joined 1")
	}
}

// What waits for the header that comes of it joins with it.
func TestP17StepScriptNextThatIsWaitedFor(t *testing.T) {
	for _, mode := range modes() {
		s := knownStore(mode)
		all := headersOf(s)
		c := clientOf(beginningOf(s, 1).Store, picked(all, 4, 2, 5), 1)
		c = wantStep(t, c, "next 0 1 9 1", impl.OK, "joined 3")
		wantAll(t, "one that two wait for", c, picked(all, 0, 1, 2, 4), picked(all, 5), 2)
		c = wantStep(t, c, "next 0 2 0 0", impl.OK, "joined 2")
		wantAll(t, "one that one waits for", c, picked(all, 0, 1, 2, 4, 3, 5), nil, 4)
	}
}

// topClient is one whose first header is of such a Number and Time; with faults a header stands behind it, and one behind that, that may not follow.
func topClient(mode int64, number int64, time int64, faults bool) impl.Client {
	genesis := withChange(impl.GenesisOf(risingAddrs(3), fill(32)).Header, func(h *impl.Header) { h.Number, h.Time = number, time })
	s := firstAs(rare(mode), genesis)
	if faults {
		s = putAs(s, 0, strayBehind(s.Entries[0], 1))
		s = putAs(s, 1, strayBehind(s.Entries[1], 1))
	}
	return clientOf(s, nil, 2)
}

// Where the Number or the Time is too great for a next header, none can be made.
func TestP17StepScriptNextThatCannotBeMade(t *testing.T) {
	for _, mode := range modes() {
		period := rare(mode).Period
		for _, c := range []impl.Client{topClient(mode, topNumber, 0, false), topClient(mode, 5, topNumber, false), topClient(mode, 5, topNumber-period+1, false), topClient(mode, topNumber, topNumber, false)} {
			wantSteps(t, c, impl.ErrRange, "next 0 0 0 0", "next 0 2 255 1")
			wantSteps(t, c, impl.ErrNone, "next 0 3 0 0", "next 1 0 0 0")
			full := withClient(c, func(c *impl.Client) { c.Orphans = strays(6) })
			wantSteps(t, full, impl.ErrRange, "next 0 0 0 0")
		}
		for _, c := range []impl.Client{topClient(mode, topNumber-1, 0, false), topClient(mode, 5, topNumber-period, false)} {
			then := wantStep(t, c, "next 0 1 0 0", impl.OK, "joined 1")
			wantSteps(t, then, impl.ErrRange, "next 1 0 0 0", "next 1 2 0 0")
			wantSteps(t, then, impl.ErrNone, "next 1 3 0 0")
			wantSteps(t, then, impl.ErrTaken, "next 0 1 0 0")
		}
	}
}

// Each code of SnapAt, behind one that may not follow and behind the one behind it.
func TestP17StepScriptNextBehindOneThatMayNotFollow(t *testing.T) {
	told := map[int64]int{}
	for _, g := range wrongGroves(t) {
		for _, row := range followFaults(g, 2) {
			wrong := len(g.store.Entries)
			s := putAs(g.store, 2, g.draft(2, g.free(2)[0]).with(row.change).finished().next)
			s = putAs(s, wrong, strayBehind(s.Entries[wrong], 1))
			c := clientOf(s, strays(2), 3, 2)
			// Ahead of which signer it is, and behind what the third and the fourth number are.
			for _, place := range []int{wrong, wrong + 1} {
				wantSteps(t, c, row.code, nextLine(place, 0, 0, 0), nextLine(place, 4, 255, 1), nextLine(place, 9, 0, 0), nextLine(place, 9999, 1, 1))
				wantSteps(t, c, impl.ErrRange, nextLine(place, 0, 256, 0), nextLine(place, 0, 0, 2), nextLine(place, 9999, 256, 2))
				wantSteps(t, c, row.code, fmt.Sprintf("snap %d", place))
			}
			wantSteps(t, c, impl.ErrNone, nextLine(wrong+2, 0, 256, 2), fmt.Sprintf("snap %d", wrong+2))
			told[row.code]++
		}
	}
	for _, code := range []int64{impl.ErrRule, impl.ErrSign, impl.ErrForm, impl.ErrTaken} {
		if told[code] < 2 {
			t.Errorf("the code %d was told %d times", code, told[code])
		}
	}
	// The code of SnapAt ahead of that of MakeNext: the one that may not follow has a Number that no next one can have.
	for _, mode := range modes() {
		c := topClient(mode, topNumber-2, 0, true)
		wantSteps(t, c, impl.ErrRule, "next 2 0 0 0", "next 2 9 0 0", "next 1 0 0 0", "snap 1", "snap 2")
		wantSteps(t, c, impl.ErrRange, "next 2 0 256 0", "next 2 0 0 2")
	}
}

// Two codes at once: each is told ahead of those behind it.
func TestP17StepScriptNextTheFirstCode(t *testing.T) {
	for _, mode := range modes() {
		strayed := clientOf(strayedStore(mode), strays(1), 2, 4)
		// No entry, ahead of all numbers.
		wantSteps(t, strayed, impl.ErrNone, "next 8 0 256 0", "next 8 0 0 2", "next 8 0 256 2", "next 8 9 0 0", "next 24 0 0 0", "next 9999 9999 9999 9999")
		// A number out of its bounds, ahead of a snapshot with a code, of no signer, of what cannot be made, and of what may not follow.
		wantSteps(t, strayed, impl.ErrRange, "next 6 0 256 0", "next 7 0 0 2", "next 0 9 256 0", "next 0 9 0 2", "next 0 0 9999 9999")
		wantSteps(t, topClient(mode, topNumber, 0, false), impl.ErrRange, "next 0 9 256 0", "next 0 0 0 2")
		// No signer, ahead of what cannot be made, of no room and of what is there.
		wantSteps(t, topClient(mode, topNumber, 0, false), impl.ErrNone, "next 0 9 0 0", "next 0 3 0 0")
		full := clientOf(fullOf(strayedStore(mode)), strays(6), 2, 4)
		wantSteps(t, full, impl.ErrNone, "next 0 3 0 0", "next 24 0 0 0", "next 24 9 256 2")
		wantSteps(t, full, impl.ErrRange, "next 0 0 256 0", "next 23 0 0 2")
		wantSteps(t, full, impl.ErrRule, "next 6 0 0 0", "next 23 9 0 0")
		// What is there, ahead of no room.
		wantSteps(t, full, impl.ErrTaken, "next 0 1 9 1", "next 1 0 2 0", "next 0 2 0 0", "next 2 2 7 1", "next 3 1 0 1")
		wantSteps(t, full, impl.ErrFull, "next 0 1 9 0", "next 0 0 0 0")
		// What may not follow, ahead of no room.
		if mode == impl.ModeTurns {
			wantSteps(t, full, impl.ErrRule, "next 1 1 9 1", "next 4 2 0 0", "next 5 1 0 0")
		}
		// What cannot be made, ahead of no room.
		top := planted(rare(mode), topClient(mode, topNumber-1, 0, false).Store.Entries[0].Header)
		top = top.grown(t, 0, top.draft(0, risingAddrs(3)[1]).finished().next)
		for len(top.store.Entries) < 24 {
			top.store = putAs(top.store, 0, strayBehind(top.store.Entries[0], byte(len(top.store.Entries))))
		}
		last := clientOf(top.store, nil, 2)
		wantSteps(t, last, impl.ErrRange, "next 1 0 0 0", "next 1 2 255 1")
		wantSteps(t, last, impl.ErrNone, "next 1 3 0 0")
		wantSteps(t, last, impl.ErrFull, "next 0 0 0 0")
	}
}

// Each place that there is: the snapshot is said, and the cache keeps it last.
func TestP17StepScriptSnap(t *testing.T) {
	for _, mode := range modes() {
		s := knownStore(mode)
		for i, c := range askedClients(s) {
			for place := range s.Entries {
				want := stepAs(c, fmt.Sprintf("snap %d", place))
				then := wantStep(t, c, fmt.Sprintf("snap %d", place), impl.OK, want.Said)
				x, err := snapRead(want.Said)
				if _, behind := snapAtAs(s, place); err != nil || !equalSnaps(x, behind) {
					t.Errorf("snap %d: %q, %v", place, want.Said, err)
				}
				kept := append(slices.DeleteFunc(keptPlaces(c.Cache), func(at int64) bool { return at == int64(place) }), int64(place))
				kept = kept[max(0, len(kept)-int(c.Cache.Size)):]
				wantAll(t, "snap", then, headersOf(s), c.Orphans, kept...)
			}
			if i%4 == 0 {
				wantSteps(t, c, impl.ErrNone, "snap 6", "snap 7", "snap 24", "snap 255", "snap 9999")
			}
		}
	}
	// Written out.
	c := clientOf(knownStore(impl.ModeTurns), nil, 1)
	for line, said := range map[string]string{
		"snap 0": "snap 0 of 00000001 00000002 00000003 recents votes",
		"snap 1": "snap 1 of 00000001 00000002 00000003 recents 1 00000002 votes 00000002 +00000009",
		"snap 2": "snap 2 of 00000001 00000002 00000003 recents 1 00000002 2 00000001 votes 00000002 +00000009 00000001 -00000002",
		"snap 3": "snap 1 of 00000001 00000002 00000003 recents 1 00000003 votes",
		"snap 4": "snap 3 of 00000001 00000002 00000003 recents 2 00000001 3 00000003 votes",
		"snap 5": "snap 2 of 00000001 00000002 00000003 recents 1 00000003 2 00000002 votes",
	} {
		c = wantStep(t, c, line, impl.OK, said)
	}
}

// Places of the cache, not of the store: those that are held, and one behind the last one.
func TestP17StepScriptEvict(t *testing.T) {
	for _, mode := range modes() {
		s := knownStore(mode)
		for _, c := range askedClients(s) {
			count := len(c.Cache.Kept)
			for at := range count {
				then := wantStep(t, c, fmt.Sprintf("evict %d", at), impl.OK, "ok")
				wantAll(t, "evict", then, headersOf(s), c.Orphans, slices.Delete(keptPlaces(c.Cache), at, at+1)...)
				wantStep(t, then, fmt.Sprintf("evict %d", count-1), impl.ErrRange, "")
			}
			wantSteps(t, c, impl.ErrRange, fmt.Sprintf("evict %d", count), fmt.Sprintf("evict %d", count+1), "evict 6", "evict 9999")
		}
	}
	// What is kept of the place 4 of the store stands at the place 0 of the cache.
	c := clientOf(knownStore(impl.ModeCommits), nil, 3, 4)
	wantSteps(t, c, impl.ErrRange, "evict 4", "evict 1")
	c = wantStep(t, c, "evict 0", impl.OK, "ok")
	wantSteps(t, c, impl.ErrRange, "evict 0", "evict 4")
	c = wantStep(t, c, "snap 5", impl.OK, "snap 2 of 00000001 00000002 00000003 recents 1 00000003 2 00000002 votes")
	wantStep(t, c, "evict 0", impl.OK, "ok")
}

// Nothing changes, and what ClientText tells is said.
func TestP17StepScriptShow(t *testing.T) {
	for _, mode := range modes() {
		for _, s := range []impl.Store{knownStore(mode), strayedStore(mode), fullOf(strayedStore(mode))} {
			for _, c := range append(askedClients(s), beginningOf(s, 2)) {
				then := wantStep(t, c, "show", impl.OK, clientTextAs(c))
				wantText(t, "ClientText", impl.ClientText(c), impl.OK, clientTextAs(c))
				if !equalClients(then, c) || !equalClients(impl.StepScript(c, "show").Client, c) {
					t.Error("the client is another one")
				}
			}
		}
	}
}
