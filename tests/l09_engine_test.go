package tests

import (
	"bytes"
	"math/rand/v2"
	"slices"
	"testing"

	"loop.example/g00383/impl"
)

// What the chapter says, reckoned a second time over lists alone; faults of headers, and the hash, are the program's.

func firstOf(codes ...int64) int64 {
	for _, code := range codes {
		if code != impl.OK {
			return code
		}
	}
	return impl.OK
}

func recentAs(x impl.Snap, signer []byte, number int64) bool {
	return slices.ContainsFunc(x.Recents, func(r impl.Recent) bool {
		return bytes.Equal(r.Signer, signer) && r.Number > number-(int64(len(x.Signers)/2)+1)
	})
}

// hardAs is how hard a header has to be.
func hardAs(c impl.Config, x impl.Snap, signer []byte, number int64) int64 {
	count := int64(len(x.Signers))
	if c.Mode == impl.ModeTurns && count > 0 && bytes.Equal(x.Signers[number-number/count*count], signer) {
		return 2
	}
	return 1
}

func isMark(c impl.Config, number int64) bool {
	return number/c.Epoch*c.Epoch == number
}

func votingAs(c impl.Config, x impl.Snap, h impl.Header) int64 {
	right := len(h.Signers) == 0 && (len(h.Target) == 0 && h.Nonce == 0 || len(h.Target) == 4 && h.Nonce != 0)
	if isMark(c, h.Number) {
		right = equalLists(h.Signers, x.Signers) && len(h.Target) == 0 && h.Nonce == 0
	}
	if right {
		return impl.OK
	}
	return impl.ErrRule
}

func checkNextAs(c impl.Config, x impl.Snap, parent impl.Header, h impl.Header) int64 {
	if code := firstOf(configFaultAs(c), snapFaultAs(x), impl.HeaderFault(parent), impl.HeaderFault(h)); code != impl.OK {
		return code
	}
	turns := c.Mode == impl.ModeTurns
	switch {
	case x.Number != parent.Number:
		return impl.ErrState
	case !bytes.Equal(h.Parent, hashAs(parent, parent.Seal)):
		return impl.ErrNone
	case h.Number != parent.Number+1:
		return impl.ErrRange
	case h.Time < parent.Time+c.Period:
		return impl.ErrRule
	case !bytes.Equal(h.Seal, sealAs(h.Signer, hashAs(h, nil))):
		return impl.ErrSign
	case !holds(x.Signers, h.Signer):
		return impl.ErrRule
	case turns && len(h.Commits) > 0:
		return impl.ErrForm
	case turns && recentAs(x, h.Signer, h.Number):
		return impl.ErrRule
	case h.Hard != hardAs(c, x, h.Signer, h.Number):
		return impl.ErrRule
	case turns:
		return votingAs(c, x, h)
	}
	return firstOf(commitsRightAs(x.Signers, h), votingAs(c, x, h))
}

func applyNextAs(c impl.Config, x impl.Snap, h impl.Header) (int64, impl.Snap) {
	if code := firstOf(configFaultAs(c), snapFaultAs(x), impl.HeaderFault(h)); code != impl.OK {
		return code, impl.Snap{}
	}
	if h.Number != x.Number+1 {
		return impl.ErrRange, impl.Snap{}
	}
	if !holds(x.Signers, h.Signer) {
		return impl.ErrNone, impl.Snap{}
	}
	y := cloneSnap(x)
	y.Number, y.Recents = h.Number, nil
	if isMark(c, h.Number) {
		y.Votes = nil
	}
	for _, r := range x.Recents {
		if r.Number > h.Number-(int64(len(x.Signers)/2)+1) {
			y.Recents = append(y.Recents, impl.Recent{Number: r.Number, Signer: bytes.Clone(r.Signer)})
		}
	}
	y.Recents = append(y.Recents, impl.Recent{Number: h.Number, Signer: bytes.Clone(h.Signer)})
	if len(h.Target) == 0 {
		return impl.OK, y
	}
	if code, voted := castAs(y, h.Signer, h.Target, h.Nonce == impl.NonceAdd); code == impl.OK {
		return impl.OK, voted
	}
	return impl.OK, y
}

func makeNextAs(c impl.Config, x impl.Snap, parent impl.Header, signer []byte, target []byte, add bool) (int64, impl.Header) {
	if code := firstOf(configFaultAs(c), snapFaultAs(x), impl.HeaderFault(parent)); code != impl.OK {
		return code, impl.Header{}
	}
	switch {
	case x.Number != parent.Number:
		return impl.ErrState, impl.Header{}
	case len(signer) != 4 || len(target) != 4 && len(target) != 0:
		return impl.ErrForm, impl.Header{}
	case !holds(x.Signers, signer):
		return impl.ErrNone, impl.Header{}
	case parent.Number > topNumber-1 || parent.Time > topNumber-c.Period:
		return impl.ErrRange, impl.Header{}
	}
	h := impl.Header{Parent: hashAs(parent, parent.Seal), Number: parent.Number + 1, Time: parent.Time + c.Period, Receipts: parent.Receipts, Signer: signer}
	h.Hard = hardAs(c, x, signer, h.Number)
	if isMark(c, h.Number) {
		h.Signers = x.Signers
	} else if len(target) == 4 {
		h.Target, h.Nonce = target, impl.NonceDrop
		if add {
			h.Nonce = impl.NonceAdd
		}
	}
	h = signedAs(h)
	if c.Mode == impl.ModeCommits {
		h = committedAs(h, x.Signers)
	}
	return impl.OK, cloneHeader(h)
}

// draft is what CheckNext is told while it comes to be. The header is tied to its parent, sealed and committed in the end, so that a change of one thing breaks no other.
type draft struct {
	config       impl.Config
	snap         impl.Snap
	parent, next impl.Header
	committers   [][]byte
	tie          func(hash []byte) []byte
	seal         func(seal []byte) []byte
	commits      func(commits [][]byte) [][]byte
	last         func(h *impl.Header)
}

// parentAt is a header of that Number; it says some things that a next one need not take from it.
func parentAt(number int64) impl.Header {
	h := someHeader()
	h.Number, h.Time, h.Receipts = number, 5*number, bytes.Repeat([]byte{0x44}, 32)
	return signedAs(h)
}

// busySnap has as much of all as there may be, and a next block.
func busySnap() impl.Snap {
	return withSnap(fullSnap(), func(x *impl.Snap) { x.Number, x.Recents = 1000, recentsUpTo(1000, 7, x.Signers) })
}

// draftOf is one of the block 1001, which may follow where its signer is not recent.
func draftOf(mode int64, x impl.Snap, signer []byte, checkpoint bool) draft {
	d := draft{config: impl.Config{Mode: mode, Period: 5, Epoch: 9}, snap: cloneSnap(x), parent: parentAt(x.Number)}
	d.next = impl.Header{Number: x.Number + 1, Time: d.parent.Time + 5, Receipts: bytes.Repeat([]byte{0x33}, 32), Signer: bytes.Clone(signer)}
	d.next.Hard = hardAs(d.config, x, signer, d.next.Number)
	if checkpoint {
		d.config.Epoch, d.next.Signers = 7, cloneLists(x.Signers)
	}
	if mode == impl.ModeCommits {
		d.committers = cloneLists(x.Signers)
	}
	return d
}

// with is the draft, in memory of its own, behind some changes.
func (d draft) with(changes ...func(d *draft)) draft {
	d.snap, d.parent, d.next, d.committers = cloneSnap(d.snap), cloneHeader(d.parent), cloneHeader(d.next), cloneLists(d.committers)
	for _, change := range changes {
		change(&d)
	}
	return d
}

// finished is the draft with its header tied, sealed and committed.
func (d draft) finished() draft {
	d = d.with()
	d.next.Parent = hashAs(d.parent, d.parent.Seal)
	if d.tie != nil {
		d.next.Parent = d.tie(d.next.Parent)
	}
	d.next = signedAs(d.next)
	if d.seal != nil {
		d.next.Seal = d.seal(d.next.Seal)
	}
	d.next.Commits = commitsAs(d.next, d.committers)
	if d.commits != nil {
		d.next.Commits = d.commits(d.next.Commits)
	}
	if d.last != nil {
		d.last(&d.next)
	}
	return d
}

func (d draft) check() int64 {
	return impl.CheckNext(d.config, d.snap, d.parent, d.next)
}

// wantNext: what CheckNext tells is the code, and that is what the chapter says.
func wantNext(t *testing.T, call string, d draft, code int64) {
	t.Helper()
	d = d.finished()
	if told := checkNextAs(d.config, d.snap, d.parent, d.next); told != code {
		t.Fatalf("%s: by the chapter it is %d, the test wants %d: %+v", call, told, code, d)
	}
	if got := d.check(); got != code {
		t.Errorf("CheckNext of %s: %d, want %d: %+v", call, got, code, d)
	}
}

func modes() []int64 {
	return []int64{impl.ModeTurns, impl.ModeCommits}
}

// votings are what a header that is no checkpoint may say of others, and what it may be silent of.
func votings(x impl.Snap) []func(d *draft) {
	votes := []func(d *draft){func(d *draft) {}}
	for _, target := range [][]byte{outsider(0), outsider(50), addr(0), x.Signers[0], x.Signers[len(x.Signers)-1]} {
		for _, nonce := range []int64{impl.NonceAdd, impl.NonceDrop} {
			votes = append(votes, func(d *draft) { d.next.Target, d.next.Nonce = bytes.Clone(target), nonce })
		}
	}
	return votes
}

func ruleSnaps() []impl.Snap {
	snaps := []impl.Snap{busySnap(), someSnap()}
	for n := 1; n <= 7; n++ {
		snaps = append(snaps, plainSnap(n))
	}
	return snaps
}

// goodDrafts may follow, all of them.
func goodDrafts() []draft {
	var drafts []draft
	for _, mode := range modes() {
		for _, x := range ruleSnaps() {
			for _, signer := range x.Signers {
				if mode == impl.ModeTurns && recentAs(x, signer, 1001) {
					continue
				}
				drafts = append(drafts, draftOf(mode, x, signer, true))
				for _, voting := range votings(x) {
					drafts = append(drafts, draftOf(mode, x, signer, false).with(voting))
				}
			}
		}
	}
	return drafts
}

func TestP10CheckNextOfWhatMayFollow(t *testing.T) {
	for _, d := range goodDrafts() {
		wantNext(t, "what may follow", d, impl.OK)
	}
}

// nextFault gives a draft a fault that is asked at one of the stages of CheckNext. Of several the one of the highest stage is to be given first: it leaves room for the others.
type nextFault struct {
	stage  int
	code   int64
	change func(d *draft)
}

// faultsOfParts are those of the arguments, each by itself.
func faultsOfParts() []nextFault {
	rows := []nextFault{
		{0, impl.ErrRange, func(d *draft) { d.config.Mode = 0 }},
		{0, impl.ErrRange, func(d *draft) { d.config.Mode = 3 }},
		{0, impl.ErrRange, func(d *draft) { d.config.Period = 0 }},
		{0, impl.ErrRange, func(d *draft) { d.config.Epoch = 101 }},
		{0, impl.ErrRange, func(d *draft) { d.config.Epoch = 0 }},
	}
	for _, row := range snapFaultChanges() {
		rows = append(rows, nextFault{1, row.code, func(d *draft) { row.change(&d.snap) }})
	}
	for _, row := range headerFaultChanges() {
		rows = append(rows, nextFault{2, row.code, func(d *draft) { row.change(&d.parent) }})
	}
	for _, row := range headerFaultChanges() {
		rows = append(rows, nextFault{3, row.code, func(d *draft) { d.last = row.change }})
	}
	return rows
}

// faultsOfOrder are those of a header that is not behind its parent.
func faultsOfOrder() []nextFault {
	return []nextFault{
		{4, impl.ErrState, func(d *draft) { d.snap.Number++ }},
		{4, impl.ErrState, func(d *draft) { d.snap.Number = topNumber }},
		{4, impl.ErrState, func(d *draft) { d.parent.Number = 0 }},
		{4, impl.ErrState, func(d *draft) { d.parent.Number, d.next.Number = 1001, 1002 }},
		{5, impl.ErrNone, func(d *draft) { d.tie = func(hash []byte) []byte { return flipped(hash, 0) } }},
		{5, impl.ErrNone, func(d *draft) { d.tie = func(hash []byte) []byte { return flipped(hash, 255) } }},
		{5, impl.ErrNone, func(d *draft) { d.tie = func(hash []byte) []byte { return make([]byte, 32) } }},
		{6, impl.ErrRange, func(d *draft) { d.next.Number-- }},
		{6, impl.ErrRange, func(d *draft) { d.next.Number++ }},
		{6, impl.ErrRange, func(d *draft) { d.next.Number = 0 }},
		{6, impl.ErrRange, func(d *draft) { d.next.Number = topNumber }},
		{7, impl.ErrRule, func(d *draft) { d.next.Time-- }},
		{7, impl.ErrRule, func(d *draft) { d.next.Time = 0 }},
		{8, impl.ErrSign, func(d *draft) { d.seal = func(seal []byte) []byte { return flipped(seal, 0) } }},
		{8, impl.ErrSign, func(d *draft) { d.seal = func(seal []byte) []byte { return flipped(seal, 31) } }},
		{8, impl.ErrSign, func(d *draft) { d.seal = func(seal []byte) []byte { return nil } }},
		{8, impl.ErrSign, func(d *draft) { d.seal = func(seal []byte) []byte { return make([]byte, 4) } }},
		{9, impl.ErrRule, func(d *draft) { d.next.Signer, d.next.Hard = outsider(0), 1 }},
		{9, impl.ErrRule, func(d *draft) { d.next.Signer, d.next.Hard = addr(0), 1 }},
	}
}

func faultsOfTurns() []nextFault {
	return []nextFault{
		{10, impl.ErrForm, func(d *draft) { d.committers = cloneLists(d.snap.Signers) }},
		{10, impl.ErrForm, func(d *draft) { d.committers = [][]byte{outsider(0)} }},
		{10, impl.ErrForm, func(d *draft) { d.commits = func([][]byte) [][]byte { return someCommits(7) } }},
		{11, impl.ErrRule, func(d *draft) { d.snap.Recents[len(d.snap.Recents)-1].Signer = bytes.Clone(d.next.Signer) }},
		{12, impl.ErrRule, func(d *draft) { d.next.Hard = 0 }},
		{12, impl.ErrRule, func(d *draft) { d.next.Hard = 3 - d.next.Hard }},
		{12, impl.ErrRule, func(d *draft) { d.next.Hard = 9 }},
	}
}

func faultsOfCommits() []nextFault {
	told := func(code int64, change func(commits [][]byte) [][]byte) nextFault {
		return nextFault{11, code, func(d *draft) { d.commits = change }}
	}
	return []nextFault{
		{10, impl.ErrRule, func(d *draft) { d.next.Hard = 0 }},
		{10, impl.ErrRule, func(d *draft) { d.next.Hard = 2 }},
		{10, impl.ErrRule, func(d *draft) { d.next.Hard = 9 }},
		told(impl.ErrSign, func(commits [][]byte) [][]byte { commits[0] = flipped(commits[0], 63); return commits }),
		told(impl.ErrSign, func(commits [][]byte) [][]byte { return someCommits(1) }),
		told(impl.ErrTaken, func(commits [][]byte) [][]byte { commits[1] = bytes.Clone(commits[0]); return commits }),
		told(impl.ErrRule, func(commits [][]byte) [][]byte { return nil }),
		{11, impl.ErrRule, func(d *draft) { d.committers = d.committers[:max(0, quorums()[len(d.committers)]-1)] }},
		{11, impl.ErrRule, func(d *draft) { d.committers[0] = outsider(0) }},
	}
}

// faultsOfVoting are those of what a header says of signers.
func faultsOfVoting(checkpoint bool) []nextFault {
	rows := []nextFault{
		{13, impl.ErrRule, func(d *draft) { d.next.Target, d.next.Nonce = outsider(0), impl.NonceNone }},
		{13, impl.ErrRule, func(d *draft) { d.next.Target, d.next.Nonce = nil, impl.NonceAdd }},
		{13, impl.ErrRule, func(d *draft) { d.next.Target, d.next.Nonce = nil, impl.NonceDrop }},
		{13, impl.ErrRule, func(d *draft) { d.next.Signers = [][]byte{outsider(0)} }},
	}
	if !checkpoint {
		return append(rows, nextFault{13, impl.ErrRule, func(d *draft) { d.next.Signers = risingAddrs(3) }})
	}
	return append(rows,
		nextFault{13, impl.ErrRule, func(d *draft) { d.next.Signers = nil }},
		nextFault{13, impl.ErrRule, func(d *draft) { d.next.Signers = d.next.Signers[:len(d.next.Signers)-1] }},
		nextFault{13, impl.ErrRule, func(d *draft) { d.next.Signers = d.next.Signers[1:] }},
		nextFault{13, impl.ErrRule, func(d *draft) { d.next.Target, d.next.Nonce = outsider(0), impl.NonceAdd }},
		nextFault{13, impl.ErrRule, func(d *draft) { d.next.Target, d.next.Nonce = d.snap.Signers[0], impl.NonceDrop }},
	)
}

// nextFaults stand in the order in which they are asked.
func nextFaults(mode int64, checkpoint bool) []nextFault {
	own := faultsOfTurns()
	if mode == impl.ModeCommits {
		own = faultsOfCommits()
	}
	return slices.Concat(faultsOfParts(), faultsOfOrder(), own, faultsOfVoting(checkpoint))
}

// eachFaulty hands out drafts with so much of all that each fault can be given to them, and these faults.
func eachFaulty(hear func(d draft, rows []nextFault)) {
	for _, mode := range modes() {
		for _, checkpoint := range []bool{false, true} {
			busy, some := busySnap(), someSnap()
			// The one is in turn, the other one is not.
			hear(draftOf(mode, busy, busy.Signers[0], checkpoint), nextFaults(mode, checkpoint))
			hear(draftOf(mode, some, some.Signers[1], checkpoint), nextFaults(mode, checkpoint))
		}
	}
}

func TestP10CheckNextEachCodeAlone(t *testing.T) {
	eachFaulty(func(d draft, rows []nextFault) {
		wantNext(t, "no fault", d, impl.OK)
		for _, row := range rows {
			wantNext(t, "one fault", d.with(row.change), row.code)
		}
	})
}

// Two faults at once: that of the lower stage is told, for each two stages.
func TestP10CheckNextTheFirstCode(t *testing.T) {
	eachFaulty(func(d draft, rows []nextFault) {
		for i, a := range rows {
			for _, b := range rows[i+1:] {
				if a.stage < b.stage {
					wantNext(t, "two faults", d.with(b.change, a.change), a.code)
				}
			}
		}
	})
}

// One fault of each stage from some stage on.
func TestP10CheckNextOfAllFaultsFromOneOn(t *testing.T) {
	eachFaulty(func(d draft, rows []nextFault) {
		faulty, stage := d, 99
		for _, row := range slices.Backward(rows) {
			if row.stage < stage {
				faulty, stage = faulty.with(row.change), row.stage
				wantNext(t, "one fault and all behind it", faulty, row.code)
			}
		}
	})
}

// The order that the chapter tells, with each two that stand beside each other written out.
func TestP10CheckNextOfNeighbours(t *testing.T) {
	x := someSnap()
	turns, commits := draftOf(impl.ModeTurns, x, x.Signers[2], false), draftOf(impl.ModeCommits, x, x.Signers[2], false)
	badSetting := func(d *draft) { d.config.Period = 101 }
	noSigners := func(d *draft) { d.snap.Signers = nil }
	badParent := func(d *draft) { d.parent.Receipts = fill(31) }
	badNumber := func(d *draft) { d.last = func(h *impl.Header) { h.Number = -1 } }
	badForm := func(d *draft) { d.last = func(h *impl.Header) { h.Seal = fill(3) } }
	otherState := func(d *draft) { d.snap.Number++ }
	stray := func(d *draft) { d.tie = func(hash []byte) []byte { return flipped(hash, 9) } }
	tooFar := func(d *draft) { d.next.Number++ }
	tooSoon := func(d *draft) { d.next.Time-- }
	unsealed := func(d *draft) { d.seal = func([]byte) []byte { return nil } }
	stranger := func(d *draft) { d.next.Signer, d.next.Hard = outsider(0), 1 }
	committed := func(d *draft) { d.committers = cloneLists(d.snap.Signers) }
	recent := func(d *draft) { d.next.Signer, d.next.Hard = cloneSnap(x).Signers[0], 1 }
	hard := func(d *draft) { d.next.Hard = 9 }
	few := func(d *draft) { d.committers = nil }
	wrong := func(d *draft) { d.commits = func(list [][]byte) [][]byte { return [][]byte{flipped(list[0], 40)} } }
	twice := func(d *draft) { d.commits = func(list [][]byte) [][]byte { return [][]byte{list[0], list[0]} } }
	aimless := func(d *draft) { d.next.Nonce = impl.NonceAdd }
	for _, row := range []struct {
		call string
		d    draft
		code int64
	}{
		{"a setting, a snapshot", turns.with(badSetting, noSigners), impl.ErrRange},
		{"a snapshot, a parent", turns.with(noSigners, badParent), impl.ErrNone},
		{"a parent, a header", turns.with(badParent, badNumber), impl.ErrForm},
		{"a header, another state", turns.with(badForm, otherState), impl.ErrForm},
		{"another state, another Parent", turns.with(otherState, stray), impl.ErrState},
		{"another Parent, another Number", turns.with(stray, tooFar), impl.ErrNone},
		{"another Number, a Time too soon", turns.with(tooFar, tooSoon), impl.ErrRange},
		{"a Time too soon, no Seal", turns.with(tooSoon, unsealed), impl.ErrRule},
		{"no Seal, a stranger", turns.with(unsealed, stranger), impl.ErrSign},
		{"a stranger, Commits", turns.with(stranger, committed), impl.ErrRule},
		{"Commits, a recent signer", turns.with(committed, recent), impl.ErrForm},
		{"a recent signer, Hard", turns.with(recent, hard), impl.ErrRule},
		{"Hard, a Nonce", turns.with(hard, aimless), impl.ErrRule},
		{"Commits, Hard, a Nonce", turns.with(committed, hard, aimless), impl.ErrForm},
		{"a stranger, Hard", commits.with(stranger, hard), impl.ErrRule},
		{"a stranger, a wrong commit", commits.with(stranger, wrong), impl.ErrRule},
		{"Hard, a wrong commit", commits.with(hard, wrong), impl.ErrRule},
		{"Hard, two of one", commits.with(hard, twice), impl.ErrRule},
		{"Hard, no commits", commits.with(hard, few), impl.ErrRule},
		{"a wrong commit, a Nonce", commits.with(wrong, aimless), impl.ErrSign},
		{"two of one, a Nonce", commits.with(twice, aimless), impl.ErrTaken},
		{"no commits, a Nonce", commits.with(few, aimless), impl.ErrRule},
		{"a recent signer, by commits", commits.with(recent), impl.OK},
	} {
		wantNext(t, row.call, row.d, row.code)
	}
}

func TestP10CheckNextOfTimes(t *testing.T) {
	for _, mode := range modes() {
		for _, checkpoint := range []bool{false, true} {
			for _, period := range []int64{1, 2, 50, 99, 100} {
				for _, time := range []int64{0, 1, 5000, topNumber - 101, topNumber - period - 1, topNumber - period} {
					at := func(next int64) draft {
						return draftOf(mode, plainSnap(3), risingAddrs(3)[1], checkpoint).with(func(d *draft) {
							d.config.Period, d.parent.Time, d.next.Time = period, time, next
						})
					}
					wantNext(t, "one below", at(time+period-1), impl.ErrRule)
					wantNext(t, "just in time", at(time+period), impl.OK)
					wantNext(t, "at the last time", at(topNumber), impl.OK)
					wantNext(t, "no time", at(0), impl.ErrRule)
					if time+period < topNumber {
						wantNext(t, "one above", at(time+period+1), impl.OK)
					} else {
						wantNext(t, "one above all", at(time+period+1), impl.ErrRange)
					}
				}
				late := draftOf(mode, plainSnap(3), risingAddrs(3)[1], checkpoint).with(func(d *draft) {
					d.config.Period, d.parent.Time, d.next.Time = period, topNumber-period+1, topNumber
				})
				wantNext(t, "behind a parent that leaves no time", late, impl.ErrRule)
			}
		}
	}
}

func TestP10CheckNextOfNumbers(t *testing.T) {
	for _, mode := range modes() {
		for _, number := range []int64{0, 1, 299, 1 << 20, topNumber - 2, topNumber - 1, topNumber} {
			x := impl.Snap{Number: number, Signers: risingAddrs(3)}
			d := draftOf(mode, x, x.Signers[0], true).with(func(d *draft) { d.config.Epoch, d.parent.Time, d.next.Time = 1, 7, 12 })
			if number < topNumber {
				wantNext(t, "one more", d, impl.OK)
			}
			for _, next := range []int64{0, number - 1, number, number + 1, number + 2, topNumber} {
				code := int64(impl.ErrRange)
				if next == number+1 && next <= topNumber {
					code = impl.OK
				}
				there := d.with(func(d *draft) { d.next.Number, d.next.Hard = next, hardAs(d.config, x, d.next.Signer, max(0, next)) })
				wantNext(t, "another Number", there, code)
			}
		}
	}
}

// What comes of Commits, of the Seal and of whatever else the parent has is no matter of the header behind it: its hash alone is.
func TestP10CheckNextOfParents(t *testing.T) {
	for _, mode := range modes() {
		d := draftOf(mode, plainSnap(4), risingAddrs(4)[2], false)
		for _, change := range []func(d *draft){
			func(d *draft) { d.parent.Commits = someCommits(7) },
			func(d *draft) { d.parent.Seal = nil },
			func(d *draft) { d.parent.Seal = fill(4) },
			func(d *draft) { d.parent.Signers = nil },
			func(d *draft) { d.parent.Signer = outsider(3) },
			func(d *draft) { d.parent.Hard = 9 },
			func(d *draft) { d.parent.Target, d.parent.Nonce = nil, impl.NonceDrop },
			func(d *draft) { d.parent.Parent = make([]byte, 32) },
		} {
			wantNext(t, "another parent", d.with(change), impl.OK)
		}
		// Commits that come behind the hash do not change it; all else does.
		told := d.finished()
		told.parent.Commits = someCommits(3)
		if told.check() != impl.OK {
			t.Errorf("a parent that was committed since: %d", told.check())
		}
		for name, change := range fieldChanges() {
			if name == "Number" || name == "Number 0" {
				continue
			}
			other := d.finished()
			change(&other.parent)
			if got := other.check(); got != impl.ErrNone {
				t.Errorf("another %s of the parent: %d", name, got)
			}
		}
	}
}

// Each seal that is not the one of the Signer and of all that the header says.
func TestP10CheckNextOfSeals(t *testing.T) {
	for _, mode := range modes() {
		d := draftOf(mode, plainSnap(3), risingAddrs(3)[1], true)
		for bit := range 32 {
			wantNext(t, "a Seal with a bit changed", d.with(func(d *draft) { d.seal = func(seal []byte) []byte { return flipped(seal, bit) } }), impl.ErrSign)
		}
		done := d.finished()
		for _, seal := range [][]byte{sealAs(addr(1), hashAs(done.next, nil)), sealAs(done.next.Signer, hashAs(done.next, done.next.Seal)), markAs(done.next.Signer, []byte{1}, hashAs(done.next, nil))} {
			wantNext(t, "another Seal", d.with(func(d *draft) { d.seal = func([]byte) []byte { return seal } }), impl.ErrSign)
		}
		// Changed behind the sealing: who it says that it is of, and what else it says.
		for _, change := range []func(h *impl.Header){
			func(h *impl.Header) { h.Signer = risingAddrs(3)[2] }, func(h *impl.Header) { h.Receipts[31] ^= 1 }, func(h *impl.Header) { h.Time++ },
			func(h *impl.Header) { h.Hard = 3 - h.Hard }, func(h *impl.Header) { h.Signers = nil },
		} {
			wantNext(t, "what was changed since", d.with(func(d *draft) { d.last = change }), impl.ErrSign)
		}
	}
}

func TestP10CheckNextOfEachSigner(t *testing.T) {
	for _, mode := range modes() {
		for _, x := range ruleSnaps() {
			for _, signer := range append(cloneLists(x.Signers), outsider(0), addr(0), addr(0x99), []byte{255, 255, 255, 255}) {
				for hard := range int64(10) {
					for _, checkpoint := range []bool{false, true} {
						d := draftOf(mode, x, signer, checkpoint)
						code := int64(impl.ErrRule)
						recent := mode == impl.ModeTurns && recentAs(x, signer, 1001)
						if holds(x.Signers, signer) && !recent && hard == d.next.Hard {
							code = impl.OK
						}
						wantNext(t, "some Signer and Hard", d.with(func(d *draft) { d.next.Hard = hard }), code)
					}
				}
			}
		}
	}
}

// Just recent, and just not any more, for each number of signers.
func TestP10CheckNextOfRecents(t *testing.T) {
	for n, far := range map[int]int64{1: 1, 2: 2, 3: 2, 4: 3, 5: 3, 6: 4, 7: 4} {
		for _, signer := range risingAddrs(n) {
			for back := int64(1); back <= 8; back++ {
				x := plainSnap(n)
				x.Recents = []impl.Recent{{Number: 1001 - back, Signer: signer}}
				code := int64(impl.OK)
				if back < far {
					code = impl.ErrRule
				}
				wantNext(t, "one that signed of late, by turns", draftOf(impl.ModeTurns, x, signer, back%2 == 0), code)
				wantNext(t, "one that signed of late, by commits", draftOf(impl.ModeCommits, x, signer, back%2 == 0), impl.OK)
			}
		}
	}
}

// As many commits as are needed, and one fewer; by turns there is none.
func TestP10CheckNextOfCommits(t *testing.T) {
	for n := 1; n <= 7; n++ {
		signers := risingAddrs(n)
		for which := range 1 << n {
			some := chosen(signers, which)
			for mode, code := range map[int64]int64{impl.ModeTurns: impl.ErrForm, impl.ModeCommits: impl.ErrRule} {
				if mode == impl.ModeTurns && len(some) == 0 || mode == impl.ModeCommits && len(some) >= quorums()[n] {
					code = impl.OK
				}
				d := draftOf(mode, plainSnap(n), signers[which%n], false)
				wantNext(t, "commits of some", d.with(func(d *draft) { d.committers = some }), code)
			}
		}
	}
}

// At a checkpoint and elsewhere: each of Signers, with each of Target and each Nonce.
func TestP10CheckNextOfVoting(t *testing.T) {
	for _, mode := range modes() {
		for n := 1; n <= 6; n++ {
			signers := risingAddrs(n)
			lists := [][][]byte{signers, nil, {}, {outsider(0)}, risingAddrs(n + 1), append([][]byte{addr(0)}, signers...)}
			if n > 1 {
				lists = append(lists, signers[1:], signers[:n-1])
			}
			for at, list := range lists {
				for _, target := range [][]byte{nil, {}, outsider(0), signers[0]} {
					for nonce := range int64(3) {
						told := func(d *draft) { d.next.Signers, d.next.Target, d.next.Nonce = list, target, nonce }
						silent := len(target) == 0 && nonce == impl.NonceNone
						voting := len(target) == 4 && nonce != impl.NonceNone
						mark, elsewhere := int64(impl.ErrRule), int64(impl.ErrRule)
						if at == 0 && silent {
							mark = impl.OK
						}
						if len(list) == 0 && (silent || voting) {
							elsewhere = impl.OK
						}
						wantNext(t, "a checkpoint", draftOf(mode, plainSnap(n), signers[n-1], true).with(told), mark)
						wantNext(t, "no checkpoint", draftOf(mode, plainSnap(n), signers[n-1], false).with(told), elsewhere)
					}
				}
			}
		}
	}
}

// Every how many there is a checkpoint: there a header says who the signers are, and nowhere else.
func TestP10CheckNextOfEpochs(t *testing.T) {
	for epoch := int64(1); epoch <= 100; epoch++ {
		c := impl.Config{Mode: 1 + epoch%2, Period: 5, Epoch: epoch}
		marked := draftOf(c.Mode, plainSnap(2), addr(1), true).with(func(d *draft) { d.config = c })
		bare := draftOf(c.Mode, plainSnap(2), addr(1), false).with(func(d *draft) { d.config = c })
		mark, elsewhere := int64(impl.ErrRule), int64(impl.OK)
		// 1001 is 7 times 11 times 13.
		if slices.Contains([]int64{1, 7, 11, 13, 77, 91}, epoch) {
			mark, elsewhere = impl.OK, impl.ErrRule
		}
		wantNext(t, "one with Signers", marked, mark)
		wantNext(t, "one without", bare, elsewhere)
	}
}

// Long runs of drafts with few faults, any of them: what is told is what the chapter says.
func TestP10CheckNextAsTold(t *testing.T) {
	r := rand.New(rand.NewPCG(91, 92))
	told := map[int64]int{}
	for range 9000 {
		mode, checkpoint := modes()[r.IntN(2)], r.IntN(3) == 0
		x := []impl.Snap{busySnap(), someSnap()}[r.IntN(2)]
		d := draftOf(mode, x, x.Signers[r.IntN(len(x.Signers))], checkpoint)
		if !checkpoint {
			votings := votings(x)
			d = d.with(votings[r.IntN(len(votings))])
		}
		rows, stage := nextFaults(mode, checkpoint), 99
		for range r.IntN(4) {
			if row := rows[r.IntN(len(rows))]; row.stage < stage {
				d, stage = d.with(row.change), row.stage
			}
		}
		d = d.finished()
		code := checkNextAs(d.config, d.snap, d.parent, d.next)
		told[code]++
		if got := d.check(); got != code {
			t.Fatalf("CheckNext of %+v: %d, want %d", d, got, code)
		}
	}
	for _, code := range []int64{impl.OK, impl.ErrForm, impl.ErrMany, impl.ErrRange, impl.ErrNone, impl.ErrTaken, impl.ErrSign, impl.ErrRule, impl.ErrState} {
		if told[code] < 20 {
			t.Errorf("the code %d was told %d times", code, told[code])
		}
	}
}

func TestP10GenesisOf(t *testing.T) {
	for n := 1; n <= 7; n++ {
		signers := risingAddrs(n)
		for _, receipts := range [][]byte{make([]byte, 32), fill(32), bytes.Repeat([]byte{255}, 32)} {
			want := impl.Header{Parent: make([]byte, 32), Hard: 1, Signers: signers, Receipts: receipts, Signer: signers[0]}
			got := impl.GenesisOf(signers, receipts)
			wantHeader(t, "GenesisOf", got, impl.OK, want)
			wantHeaderFault(t, "a first header", got.Header, impl.OK)
		}
	}
	high := [][]byte{{127, 255, 255, 255}, {128, 0, 0, 0}}
	wantHeader(t, "GenesisOf two", impl.GenesisOf(high, fill(32)), impl.OK, impl.Header{Parent: make([]byte, 32), Hard: 1, Signers: high, Receipts: fill(32), Signer: high[0]})
	// The hash was worked out apart from the program.
	known := impl.GenesisOf([][]byte{addr(1), addr(2), addr(3)}, bytes.Repeat([]byte{0x22}, 32))
	wantBytes(t, "HashOf a first header", impl.HashOf(known.Header), impl.OK, unhex("abc99c81011ac9d446716dd71600fe682f20d8ace834993df7eccf52dc299748"))
}

func TestP10GenesisOfFaults(t *testing.T) {
	wrong := [][]byte{nil, {}, fill(1), fill(4), fill(31), fill(33), fill(64), fill(1201)}
	for _, none := range [][][]byte{nil, {}} {
		wantHeader(t, "GenesisOf no signers", impl.GenesisOf(none, fill(32)), impl.ErrNone, impl.Header{})
		for _, receipts := range wrong {
			wantHeader(t, "GenesisOf no signers and wrong receipts", impl.GenesisOf(none, receipts), impl.ErrNone, impl.Header{})
		}
	}
	for _, row := range faultyLists() {
		wantHeader(t, "GenesisOf signers with a fault", impl.GenesisOf(row.list, fill(32)), row.code, impl.Header{})
		for _, receipts := range wrong {
			wantHeader(t, "GenesisOf signers with a fault and wrong receipts", impl.GenesisOf(row.list, receipts), row.code, impl.Header{})
		}
	}
	for n := 1; n <= 7; n++ {
		for _, receipts := range wrong {
			wantHeader(t, "GenesisOf wrong receipts", impl.GenesisOf(risingAddrs(n), receipts), impl.ErrForm, impl.Header{})
		}
	}
}
