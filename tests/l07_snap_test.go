package tests

import (
	"bytes"
	"math"
	"math/rand/v2"
	"slices"
	"testing"

	"loop.example/g00383/impl"
)

func voteOf(signer []byte, target []byte, add bool) impl.Vote {
	return impl.Vote{Signer: bytes.Clone(signer), Target: bytes.Clone(target), Add: add}
}

// outsider is an address that is none of risingAddrs.
func outsider(n int) []byte {
	return addr(0x500 + n)
}

// plainSnap has so many signers, and neither Recents nor Votes.
func plainSnap(signers int) impl.Snap {
	return impl.Snap{Number: 1000, Signers: risingAddrs(signers)}
}

// recentsUpTo are so many Recents, the last one of the block number, of each of signers by turns.
func recentsUpTo(number int64, count int, signers [][]byte) []impl.Recent {
	var recents []impl.Recent
	for i := range count {
		recents = append(recents, impl.Recent{Number: number - int64(count-1-i), Signer: bytes.Clone(signers[i%len(signers)])})
	}
	return recents
}

// fullSnap has as much of all as there may be; on none of its targets more than half have a vote.
func fullSnap() impl.Snap {
	x := impl.Snap{Number: topNumber, Signers: risingAddrs(7)}
	x.Recents = recentsUpTo(topNumber, 7, x.Signers)
	for i := range 24 {
		x.Votes = append(x.Votes, voteOf(x.Signers[i%7], outsider(i/3), true))
	}
	for i := range 6 {
		x.Votes = append(x.Votes, voteOf(x.Signers[i], x.Signers[i/3], false))
	}
	return x
}

// someSnap is neither full nor plain.
func someSnap() impl.Snap {
	x := plainSnap(3)
	a, b, c := x.Signers[0], x.Signers[1], x.Signers[2]
	x.Recents = []impl.Recent{{Number: 7, Signer: addr(0x99)}, {Number: 999, Signer: c}, {Number: 1000, Signer: a}}
	x.Votes = []impl.Vote{voteOf(c, outsider(1), true), voteOf(a, b, false), voteOf(b, b, false), voteOf(b, outsider(0), true)}
	return x
}

func goodSnaps() []impl.Snap {
	return []impl.Snap{fullSnap(), someSnap(), plainSnap(1), plainSnap(7)}
}

// cloneSnap is the same snapshot in other memory.
func cloneSnap(x impl.Snap) impl.Snap {
	cloned := impl.Snap{Number: x.Number, Signers: cloneLists(x.Signers)}
	for _, r := range x.Recents {
		cloned.Recents = append(cloned.Recents, impl.Recent{Number: r.Number, Signer: bytes.Clone(r.Signer)})
	}
	for _, v := range x.Votes {
		cloned.Votes = append(cloned.Votes, voteOf(v.Signer, v.Target, v.Add))
	}
	return cloned
}

// withSnap is a snapshot in other memory, with a change.
func withSnap(x impl.Snap, change func(x *impl.Snap)) impl.Snap {
	changed := cloneSnap(x)
	change(&changed)
	return changed
}

func equalVotes(a []impl.Vote, b []impl.Vote) bool {
	return slices.EqualFunc(a, b, func(v impl.Vote, w impl.Vote) bool {
		return bytes.Equal(v.Signer, w.Signer) && bytes.Equal(v.Target, w.Target) && v.Add == w.Add
	})
}

func equalRecents(a []impl.Recent, b []impl.Recent) bool {
	return slices.EqualFunc(a, b, func(r impl.Recent, s impl.Recent) bool {
		return r.Number == s.Number && bytes.Equal(r.Signer, s.Signer)
	})
}

// equalSnaps holds them against each other field by field.
func equalSnaps(a impl.Snap, b impl.Snap) bool {
	return a.Number == b.Number && equalLists(a.Signers, b.Signers) && equalRecents(a.Recents, b.Recents) && equalVotes(a.Votes, b.Votes)
}

func wantSnap(t *testing.T, call string, got impl.SnapResult, code int64, x impl.Snap) {
	t.Helper()
	if got.Code != code || !equalSnaps(got.Snap, x) {
		t.Errorf("%s: %+v, want code %d and %+v", call, got, code, x)
	}
}

// wantSnapFault: whoever is told such a snapshot tells its fault, and nothing else, be the other arguments right or wrong.
func wantSnapFault(t *testing.T, call string, x impl.Snap, code int64) {
	t.Helper()
	if got := impl.SnapFault(x); got != code {
		t.Errorf("SnapFault of %s: %d, want %d", call, got, code)
	}
	if code == impl.OK {
		return
	}
	for _, who := range [][]byte{addr(1), outsider(0), nil, fill(5)} {
		wantInt(t, "TallyOf with "+call, impl.TallyOf(x, who), code, 0)
		wantSnap(t, "CastVote with "+call, impl.CastVote(x, who, who, false), code, impl.Snap{})
		for _, number := range []int64{-1, 0, 1000, topNumber, topNumber + 1} {
			wantInt(t, "TurnOf with "+call, impl.TurnOf(x, who, number), code, 0)
			if impl.WasRecent(x, who, number) {
				t.Errorf("WasRecent with %s: true", call)
			}
		}
	}
}

func TestP8Constants(t *testing.T) {
	if impl.MaxVotes != 30 {
		t.Error("a constant is another one")
	}
}

func TestP8SnapFaultOfNone(t *testing.T) {
	for _, x := range goodSnaps() {
		wantSnapFault(t, "one without a fault", x, impl.OK)
	}
	for n := 1; n <= 7; n++ {
		wantSnapFault(t, "so many signers as may be", plainSnap(n), impl.OK)
	}
	wantSnapFault(t, "nothing at all", impl.Snap{}, impl.ErrNone)
}

func TestP8SnapFaultOfNumbers(t *testing.T) {
	for number, code := range map[int64]int64{
		math.MinInt64: impl.ErrRange, -1: impl.ErrRange, 0: impl.OK, 1: impl.OK, topNumber - 1: impl.OK,
		topNumber: impl.OK, topNumber + 1: impl.ErrRange, math.MaxInt64: impl.ErrRange,
	} {
		for n := 1; n <= 7; n++ {
			wantSnapFault(t, "some Number", withSnap(plainSnap(n), func(x *impl.Snap) { x.Number = number }), code)
		}
	}
}

func TestP8SnapFaultOfSigners(t *testing.T) {
	for _, good := range goodSnaps() {
		for _, none := range [][][]byte{nil, {}} {
			wantSnapFault(t, "no Signers", withSnap(good, func(x *impl.Snap) { x.Signers = none }), impl.ErrNone)
		}
		for _, row := range faultyLists() {
			wantSnapFault(t, "faulty Signers", withSnap(good, func(x *impl.Snap) { x.Signers = row.list }), row.code)
		}
	}
}

func TestP8SnapFaultOfCounts(t *testing.T) {
	for _, good := range []impl.Snap{plainSnap(1), plainSnap(2), plainSnap(7)} {
		for n := range 9 {
			x := withSnap(good, func(x *impl.Snap) { x.Recents = recentsUpTo(x.Number, n, x.Signers) })
			code := int64(impl.OK)
			if n > 7 {
				code = impl.ErrMany
			}
			wantSnapFault(t, "so many Recents", x, code)
		}
		for _, n := range []int{0, 1, 29, 30, 31, 1000} {
			x := withSnap(good, func(x *impl.Snap) {
				for i := range n {
					x.Votes = append(x.Votes, voteOf(x.Signers[i%len(x.Signers)], outsider(i), true))
				}
			})
			code := int64(impl.OK)
			if n > 30 {
				code = impl.ErrMany
			}
			wantSnapFault(t, "so many Votes", x, code)
		}
	}
}

// wrongAddrs have not the length of an address; each begins as one of the signers does.
func wrongAddrs() [][]byte {
	return [][]byte{nil, {}, addr(1)[:1], addr(1)[:3], append(addr(1), 0), append(addr(1), addr(1)...), fill(32), fill(1201)}
}

func TestP8SnapFaultOfRecents(t *testing.T) {
	for _, good := range []impl.Snap{fullSnap(), someSnap()} {
		last := len(good.Recents) - 1
		for at := range good.Recents {
			change := func(call string, code int64, change func(r *impl.Recent)) {
				wantSnapFault(t, "a Recent with "+call, withSnap(good, func(x *impl.Snap) { change(&x.Recents[at]) }), code)
			}
			for _, wrong := range wrongAddrs() {
				change("a Signer that is no address", impl.ErrForm, func(r *impl.Recent) { r.Signer = wrong })
			}
			change("a Signer that is none of Signers", impl.OK, func(r *impl.Recent) { r.Signer = addr(0x77) })
			for _, number := range []int64{math.MinInt64, -1, good.Number + 1, math.MaxInt64} {
				change("a Number out of bounds", impl.ErrRange, func(r *impl.Recent) { r.Number = number })
			}
			if at > 0 {
				ahead := good.Recents[at-1].Number
				change("the same Number as the one ahead", impl.ErrRange, func(r *impl.Recent) { r.Number = ahead })
				change("a Number less than the one ahead", impl.ErrRange, func(r *impl.Recent) { r.Number = ahead - 1 })
			}
			if at < last {
				change("the Number of the snapshot, not the last one", impl.ErrRange, func(r *impl.Recent) { r.Number = good.Number })
			}
		}
	}
}

func TestP8SnapFaultOfRecentsAtTheBounds(t *testing.T) {
	for _, number := range []int64{0, 1, 5, topNumber} {
		for _, at := range []int64{-1, 0, number - 1, number, number + 1} {
			x := withSnap(plainSnap(2), func(x *impl.Snap) {
				x.Number, x.Recents = number, []impl.Recent{{Number: at, Signer: addr(1)}}
			})
			code := int64(impl.OK)
			if at < 0 || at > number {
				code = impl.ErrRange
			}
			wantSnapFault(t, "one Recent", x, code)
		}
	}
	gaps := withSnap(plainSnap(2), func(x *impl.Snap) {
		x.Recents = []impl.Recent{{Number: 0, Signer: addr(1)}, {Number: 1, Signer: addr(1)}, {Number: 500, Signer: addr(9)}}
	})
	wantSnapFault(t, "Recents with gaps, two of one signer", gaps, impl.OK)
}

func TestP8SnapFaultOfVotes(t *testing.T) {
	for _, good := range []impl.Snap{fullSnap(), someSnap()} {
		for at, vote := range good.Votes {
			change := func(call string, code int64, change func(v *impl.Vote)) {
				wantSnapFault(t, "a Vote with "+call, withSnap(good, func(x *impl.Snap) { change(&x.Votes[at]) }), code)
			}
			for _, wrong := range wrongAddrs() {
				change("a Signer that is no address", impl.ErrForm, func(v *impl.Vote) { v.Signer = wrong })
				change("a Target that is no address", impl.ErrForm, func(v *impl.Vote) { v.Target = wrong })
				change("neither", impl.ErrForm, func(v *impl.Vote) { v.Signer, v.Target = wrong, wrong })
			}
			change("a Signer that is none of Signers", impl.ErrNone, func(v *impl.Vote) { v.Signer = outsider(at) })
			change("the other way of Add", impl.ErrRule, func(v *impl.Vote) { v.Add = !v.Add })
			change("one that is there to Add", impl.ErrRule, func(v *impl.Vote) { v.Target, v.Add = good.Signers[2], true })
			change("itself to Add", impl.ErrRule, func(v *impl.Vote) { v.Target, v.Add = v.Signer, true })
			change("one that is not there to be gone", impl.ErrRule, func(v *impl.Vote) { v.Target, v.Add = outsider(99), false })
			change("one that nobody has a vote on", impl.OK, func(v *impl.Vote) { v.Target, v.Add = outsider(99), true })
			change("a signer that nobody has a vote on", impl.OK, func(v *impl.Vote) { v.Target, v.Add = good.Signers[2], false })
			// Of two that are the same the one behind is at fault.
			for other := range good.Votes {
				twice := withSnap(good, func(x *impl.Snap) { x.Votes[other] = voteOf(vote.Signer, vote.Target, vote.Add) })
				code := int64(impl.OK)
				if other != at {
					code = impl.ErrTaken
				}
				wantSnapFault(t, "two Votes with the same Signer and Target", twice, code)
			}
		}
	}
}

// snapChange gives a snapshot a fault that is asked at one of the stages of SnapFault.
type snapChange struct {
	stage  int
	code   int64
	change func(x *impl.Snap)
}

// snapFaultChanges stand in the order in which their faults are asked; each leaves the faults of others as they are.
func snapFaultChanges() []snapChange {
	rows := []snapChange{
		{0, impl.ErrRange, func(x *impl.Snap) { x.Number = -1 }},
		{0, impl.ErrRange, func(x *impl.Snap) { x.Number = topNumber + 1 }},
		{1, impl.ErrNone, func(x *impl.Snap) { x.Signers = nil }},
	}
	for _, row := range faultyLists() {
		rows = append(rows, snapChange{2, row.code, func(x *impl.Snap) {
			if len(x.Signers) > 0 {
				x.Signers = row.list
			}
		}})
	}
	return append(rows,
		snapChange{3, impl.ErrMany, func(x *impl.Snap) { x.Recents = append(x.Recents, make([]impl.Recent, 8)...) }},
		snapChange{3, impl.ErrMany, func(x *impl.Snap) { x.Votes = append(x.Votes, make([]impl.Vote, 31)...) }},
		snapChange{4, impl.ErrForm, func(x *impl.Snap) { x.Recents[0].Signer = fill(3) }},
		snapChange{5, impl.ErrRange, func(x *impl.Snap) { x.Recents[1].Number = -1 }},
		snapChange{6, impl.ErrForm, func(x *impl.Snap) { x.Recents[2].Signer = fill(5) }},
		snapChange{7, impl.ErrForm, func(x *impl.Snap) { x.Votes[0].Target = fill(5) }},
		snapChange{8, impl.ErrNone, func(x *impl.Snap) { x.Votes[1].Signer = addr(0x3333) }},
		snapChange{9, impl.ErrRule, func(x *impl.Snap) { x.Votes[2].Add = !x.Votes[2].Add }},
		snapChange{10, impl.ErrForm, func(x *impl.Snap) { x.Votes[3].Signer = fill(3) }},
	)
}

func TestP8SnapFaultTheFirstCode(t *testing.T) {
	rows := snapFaultChanges()
	for _, good := range []impl.Snap{fullSnap(), someSnap()} {
		for i, a := range rows {
			wantSnapFault(t, "one fault", withSnap(good, a.change), a.code)
			for _, b := range rows[i:] {
				if a.stage == b.stage {
					continue
				}
				two := withSnap(good, a.change)
				b.change(&two)
				wantSnapFault(t, "two faults", two, a.code)
			}
		}
		// Each row's fault, and all that are asked behind it.
		for i, a := range rows {
			all := withSnap(good, a.change)
			for _, b := range rows[i+1:] {
				if b.stage > a.stage {
					b.change(&all)
				}
			}
			wantSnapFault(t, "one fault and all behind it", all, a.code)
		}
	}
}

// Of one Recent, and of one Vote, the codes come in order too.
func TestP8SnapFaultTwoOfOneElement(t *testing.T) {
	x := someSnap()
	a, b := x.Signers[0], x.Signers[1]
	form := withSnap(x, func(x *impl.Snap) { x.Recents[1] = impl.Recent{Number: -1, Signer: fill(5)} })
	wantSnapFault(t, "a Recent whose Signer and Number are wrong", form, impl.ErrForm)
	for call, row := range map[string]struct {
		vote impl.Vote
		code int64
	}{
		"a Signer of 3 bytes who wants one there that is": {voteOf(fill(3), a, true), impl.ErrForm},
		"a Target of 5 bytes, of one that is no Signer":   {voteOf(outsider(5), fill(5), false), impl.ErrForm},
		"one that is no Signer and wants one that is":     {voteOf(outsider(5), a, true), impl.ErrNone},
		"one that is no Signer and wants itself not":      {voteOf(outsider(5), outsider(5), false), impl.ErrNone},
		"the other way of a Vote ahead":                   {voteOf(a, b, true), impl.ErrRule},
		"the other way of another Vote ahead":             {voteOf(x.Signers[2], outsider(1), false), impl.ErrRule},
		"a Vote ahead":                                    {voteOf(a, b, false), impl.ErrTaken},
	} {
		changed := withSnap(x, func(x *impl.Snap) { x.Votes = append(x.Votes, row.vote) })
		wantSnapFault(t, "a Vote: "+call, changed, row.code)
	}
}

func holds(list [][]byte, data []byte) bool {
	return slices.ContainsFunc(list, func(other []byte) bool { return bytes.Equal(other, data) })
}

// voteFaultAs is what the chapter says of the Vote at a place.
func voteFaultAs(x impl.Snap, at int) int64 {
	v := x.Votes[at]
	if len(v.Signer) != 4 || len(v.Target) != 4 {
		return impl.ErrForm
	}
	if !holds(x.Signers, v.Signer) {
		return impl.ErrNone
	}
	if v.Add && holds(x.Signers, v.Target) || !v.Add && !holds(x.Signers, v.Target) {
		return impl.ErrRule
	}
	for _, ahead := range x.Votes[:at] {
		if bytes.Equal(ahead.Signer, v.Signer) && bytes.Equal(ahead.Target, v.Target) {
			return impl.ErrTaken
		}
	}
	return impl.OK
}

// snapFaultAs is what the chapter says of a snapshot.
func snapFaultAs(x impl.Snap) int64 {
	if x.Number < 0 || x.Number > topNumber {
		return impl.ErrRange
	}
	if len(x.Signers) == 0 {
		return impl.ErrNone
	}
	if fault := impl.SignersFault(x.Signers); fault != impl.OK {
		return fault
	}
	if len(x.Recents) > 7 || len(x.Votes) > 30 {
		return impl.ErrMany
	}
	for at, r := range x.Recents {
		if len(r.Signer) != 4 {
			return impl.ErrForm
		}
		if r.Number < 0 || r.Number > x.Number || at > 0 && r.Number <= x.Recents[at-1].Number {
			return impl.ErrRange
		}
	}
	for at := range x.Votes {
		if fault := voteFaultAs(x, at); fault != impl.OK {
			return fault
		}
	}
	return impl.OK
}

// mostlyAddr is an address of a few, and now and then none.
func mostlyAddr(r *rand.Rand, few int) []byte {
	if r.IntN(60) == 0 {
		return fill(r.IntN(7))
	}
	return addr(r.IntN(few))
}

// looseSnap may have every fault, and often none.
func looseSnap(r *rand.Rand) impl.Snap {
	x := impl.Snap{Number: r.Int64N(12)}
	for n := range 5 {
		if r.IntN(3) > 0 {
			x.Signers = append(x.Signers, addr(n))
		}
	}
	number := int64(0)
	for range r.IntN(4) {
		number += r.Int64N(4)
		x.Recents = append(x.Recents, impl.Recent{Number: number, Signer: mostlyAddr(r, 8)})
	}
	for range r.IntN(5) {
		v := impl.Vote{Signer: mostlyAddr(r, 5), Target: mostlyAddr(r, 8)}
		v.Add = holds(x.Signers, v.Target) == (r.IntN(15) == 0)
		x.Votes = append(x.Votes, v)
	}
	return x
}

func TestP8SnapFaultOfManySnapshots(t *testing.T) {
	r := rand.New(rand.NewPCG(7, 1))
	seen := map[int64]int{}
	for range 20000 {
		x := looseSnap(r)
		code := snapFaultAs(x)
		seen[code]++
		if got := impl.SnapFault(x); got != code {
			t.Fatalf("SnapFault of %+v: %d, want %d", x, got, code)
		}
	}
	for _, code := range []int64{impl.OK, impl.ErrForm, impl.ErrRange, impl.ErrNone, impl.ErrRule, impl.ErrTaken} {
		if seen[code] < 100 {
			t.Errorf("the code %d came %d times alone", code, seen[code])
		}
	}
}

func TestP8NewSnap(t *testing.T) {
	for n := 1; n <= 7; n++ {
		made := impl.NewSnap(risingAddrs(n))
		wantSnap(t, "NewSnap", made, impl.OK, impl.Snap{Signers: risingAddrs(n)})
		wantSnapFault(t, "a new one", made.Snap, impl.OK)
	}
	wantSnap(t, "NewSnap of one", impl.NewSnap([][]byte{addr(0)}), impl.OK, impl.Snap{Signers: [][]byte{addr(0)}})
	wantSnap(t, "NewSnap of nil", impl.NewSnap(nil), impl.ErrNone, impl.Snap{})
	wantSnap(t, "NewSnap of none", impl.NewSnap([][]byte{}), impl.ErrNone, impl.Snap{})
	wantSnap(t, "NewSnap of 8", impl.NewSnap(risingAddrs(8)), impl.ErrMany, impl.Snap{})
	for _, row := range faultyLists() {
		wantSnap(t, "NewSnap of a list with a fault", impl.NewSnap(row.list), row.code, impl.Snap{})
	}
}

func TestP8TallyOf(t *testing.T) {
	x := fullSnap()
	for n := range 8 {
		wantInt(t, "TallyOf one that three want", impl.TallyOf(x, outsider(n)), impl.OK, 3)
	}
	wantInt(t, "TallyOf a signer that three do not want", impl.TallyOf(x, x.Signers[0]), impl.OK, 3)
	wantInt(t, "TallyOf one with no Votes", impl.TallyOf(x, outsider(9)), impl.OK, 0)
	wantInt(t, "TallyOf a signer with no Votes on it", impl.TallyOf(x, x.Signers[6]), impl.OK, 0)
	y := someSnap()
	wantInt(t, "TallyOf one with one Vote", impl.TallyOf(y, outsider(0)), impl.OK, 1)
	wantInt(t, "TallyOf one with two Votes", impl.TallyOf(y, y.Signers[1]), impl.OK, 2)
	// A Vote counts for its Target, not for its Signer.
	wantInt(t, "TallyOf one that votes alone", impl.TallyOf(y, y.Signers[0]), impl.OK, 0)
	wantInt(t, "TallyOf of a plain one", impl.TallyOf(plainSnap(1), addr(1)), impl.OK, 0)
	for _, good := range goodSnaps() {
		for _, wrong := range wrongAddrs() {
			wantInt(t, "TallyOf what is no address", impl.TallyOf(good, wrong), impl.ErrForm, 0)
		}
	}
	for n := range 8 {
		all := withSnap(plainSnap(7), func(x *impl.Snap) {
			for _, signer := range x.Signers[:n] {
				x.Votes = append(x.Votes, voteOf(signer, outsider(1), true), voteOf(signer, outsider(2), true))
			}
		})
		wantInt(t, "TallyOf one of two", impl.TallyOf(all, outsider(1)), impl.OK, int64(n))
	}
}

// turnNumbers are on both sides of the bounds, and of what so many signers leave.
func turnNumbers() []int64 {
	list := []int64{topNumber - 7, topNumber - 2, topNumber - 1, topNumber}
	for n := range int64(22) {
		list = append(list, n)
	}
	return list
}

func TestP8TurnOf(t *testing.T) {
	for n := 1; n <= 7; n++ {
		x := plainSnap(n)
		for _, number := range turnNumbers() {
			inTurn := 0
			for at, signer := range x.Signers {
				want := int64(1)
				if int64(at) == number-number/int64(n)*int64(n) {
					want = 2
					inTurn++
				}
				wantInt(t, "TurnOf", impl.TurnOf(x, signer, number), impl.OK, want)
			}
			if inTurn != 1 {
				t.Errorf("%d of %d are in turn at %d", inTurn, n, number)
			}
		}
	}
}

func TestP8TurnOfKnown(t *testing.T) {
	three := plainSnap(3)
	rows := []struct {
		place  int
		number int64
		want   int64
	}{{0, 0, 2}, {1, 0, 1}, {2, 0, 1}, {0, 1, 1}, {1, 1, 2}, {2, 1, 1}, {2, 2, 2}, {0, 3, 2}, {1, topNumber, 2}, {0, topNumber, 1}}
	for _, row := range rows {
		wantInt(t, "TurnOf of three", impl.TurnOf(three, three.Signers[row.place], row.number), impl.OK, row.want)
	}
	// The Number of the snapshot itself does not matter.
	later := withSnap(three, func(x *impl.Snap) { x.Number = 0 })
	wantInt(t, "TurnOf of an earlier snapshot", impl.TurnOf(later, three.Signers[1], 4), impl.OK, 2)
}

func TestP8TurnOfWrong(t *testing.T) {
	for _, x := range goodSnaps() {
		for _, number := range []int64{math.MinInt64, -1, topNumber + 1, math.MaxInt64} {
			wantInt(t, "TurnOf out of bounds", impl.TurnOf(x, x.Signers[0], number), impl.ErrRange, 0)
			wantInt(t, "TurnOf out of bounds of none", impl.TurnOf(x, outsider(9), number), impl.ErrRange, 0)
			wantInt(t, "TurnOf out of bounds of no address", impl.TurnOf(x, fill(5), number), impl.ErrRange, 0)
		}
		for _, who := range append(wrongAddrs(), outsider(9), addr(0), []byte{255, 255, 255, 255}) {
			for _, number := range []int64{0, 3, topNumber} {
				wantInt(t, "TurnOf one that is none", impl.TurnOf(x, who, number), impl.ErrNone, 0)
			}
		}
	}
}

func wantRecent(t *testing.T, call string, x impl.Snap, signer []byte, number int64, want bool) {
	t.Helper()
	if got := impl.WasRecent(x, signer, number); got != want {
		t.Errorf("WasRecent of %s, %v at %d: %v, want %v", call, signer, number, got, want)
	}
}

// The bound of so many signers: so much above the Number of the Recent one may sign again.
func TestP8WasRecentAtTheBound(t *testing.T) {
	for n, far := range map[int]int64{1: 1, 2: 2, 3: 2, 4: 3, 5: 3, 6: 4, 7: 4} {
		for _, signed := range []int64{0, 1, 500, topNumber - 20} {
			x := withSnap(plainSnap(n), func(x *impl.Snap) {
				x.Number, x.Recents = topNumber, []impl.Recent{{Number: signed, Signer: addr(1)}}
			})
			wantRecent(t, "one ahead of the bound", x, addr(1), signed+far-1, true)
			wantRecent(t, "one at the bound", x, addr(1), signed+far, false)
			wantRecent(t, "one behind the bound", x, addr(1), signed+far+1, false)
			wantRecent(t, "one far behind the bound", x, addr(1), topNumber, false)
			wantRecent(t, "the block itself", x, addr(1), signed, true)
			// What was signed later is above the bound all the more.
			wantRecent(t, "a block ahead of it", x, addr(1), signed/2, true)
			wantRecent(t, "the first block", x, addr(1), 0, true)
			wantRecent(t, "one that has none", x, outsider(1), signed, false)
			if n > 1 {
				wantRecent(t, "another signer", x, x.Signers[1], signed, false)
			}
		}
	}
}

func TestP8WasRecentOfNumbers(t *testing.T) {
	x := withSnap(plainSnap(7), func(x *impl.Snap) {
		x.Number = topNumber
		x.Recents = []impl.Recent{{Number: 0, Signer: addr(1)}, {Number: topNumber, Signer: addr(1)}}
	})
	for number, want := range map[int64]bool{math.MinInt64: false, -1: false, 0: true, 3: true, topNumber: true, topNumber + 1: false, math.MaxInt64: false} {
		wantRecent(t, "both ends", x, addr(1), number, want)
	}
	wantRecent(t, "no Recents", plainSnap(7), addr(1), 0, false)
}

func TestP8WasRecentOfSeveral(t *testing.T) {
	x := withSnap(plainSnap(3), func(x *impl.Snap) {
		x.Recents = []impl.Recent{{Number: 10, Signer: addr(1)}, {Number: 11, Signer: addr(9)}, {Number: 20, Signer: addr(1)}, {Number: 30, Signer: addr(9)}}
	})
	for number := int64(0); number < 40; number++ {
		wantRecent(t, "one with several", x, addr(1), number, number-2 < 20)
		wantRecent(t, "another one with several, no signer", x, addr(9), number, number-2 < 30)
	}
	for _, who := range wrongAddrs() {
		wantRecent(t, "what is no address", x, who, 20, false)
	}
}

func wantSameSnaps(t *testing.T, call string, a impl.Snap, b impl.Snap, want bool) {
	t.Helper()
	if impl.SameSnaps(a, b) != want || impl.SameSnaps(b, a) != want {
		t.Errorf("SameSnaps of %s: %v, the other way around %v, want %v", call, impl.SameSnaps(a, b), impl.SameSnaps(b, a), want)
	}
}

// snapFieldChanges change one field each of a snapshot with at least two of all.
func snapFieldChanges() map[string]func(x *impl.Snap) {
	return map[string]func(x *impl.Snap){
		"Number":               func(x *impl.Snap) { x.Number-- },
		"Signer":               func(x *impl.Snap) { x.Signers[1][3] ^= 1 },
		"last Signer":          func(x *impl.Snap) { x.Signers = x.Signers[:len(x.Signers)-1] },
		"first Signer":         func(x *impl.Snap) { x.Signers = x.Signers[1:] },
		"Signers' order":       func(x *impl.Snap) { slices.Reverse(x.Signers) },
		"no Signers":           func(x *impl.Snap) { x.Signers = nil },
		"first Recent":         func(x *impl.Snap) { x.Recents = x.Recents[1:] },
		"last Recent":          func(x *impl.Snap) { x.Recents = x.Recents[:len(x.Recents)-1] },
		"Recent's Number":      func(x *impl.Snap) { x.Recents[0].Number-- },
		"last Recent's Number": func(x *impl.Snap) { x.Recents[len(x.Recents)-1].Number -= topNumber },
		"Recent's Signer":      func(x *impl.Snap) { x.Recents[1].Signer[0] ^= 128 },
		"Recents' order":       func(x *impl.Snap) { slices.Reverse(x.Recents) },
		"no Recents":           func(x *impl.Snap) { x.Recents = nil },
		"first Vote":           func(x *impl.Snap) { x.Votes = x.Votes[1:] },
		"last Vote":            func(x *impl.Snap) { x.Votes = x.Votes[:len(x.Votes)-1] },
		"Vote's Signer":        func(x *impl.Snap) { x.Votes[0].Signer[2] ^= 4 },
		"Vote's Target":        func(x *impl.Snap) { x.Votes[1].Target[1] ^= 4 },
		"last Vote's Target":   func(x *impl.Snap) { x.Votes[len(x.Votes)-1].Target[3] ^= 1 },
		"Vote's Add":           func(x *impl.Snap) { x.Votes[0].Add = !x.Votes[0].Add },
		"last Vote's Add":      func(x *impl.Snap) { x.Votes[len(x.Votes)-1].Add = !x.Votes[len(x.Votes)-1].Add },
		"Votes' order":         func(x *impl.Snap) { x.Votes[0], x.Votes[1] = x.Votes[1], x.Votes[0] },
		"Votes, all turned":    func(x *impl.Snap) { slices.Reverse(x.Votes) },
		"Vote around":          func(x *impl.Snap) { x.Votes[0].Signer, x.Votes[0].Target = x.Votes[0].Target, x.Votes[0].Signer },
		"no Votes":             func(x *impl.Snap) { x.Votes = nil },
	}
}

func TestP8SameSnaps(t *testing.T) {
	for i, x := range goodSnaps() {
		wantSameSnaps(t, "one and itself", x, x, true)
		wantSameSnaps(t, "one and itself in other memory", x, cloneSnap(x), true)
		for j, other := range goodSnaps() {
			wantSameSnaps(t, "two of several", x, other, i == j)
		}
	}
	for _, x := range []impl.Snap{fullSnap(), someSnap()} {
		for name, change := range snapFieldChanges() {
			wantSameSnaps(t, "one with another "+name, x, withSnap(x, change), false)
			wantSameSnaps(t, "both with another "+name, withSnap(x, change), withSnap(x, change), true)
		}
	}
}

func TestP8SameSnapsOfEmptyThings(t *testing.T) {
	empty := impl.Snap{Signers: [][]byte{}, Recents: []impl.Recent{}, Votes: []impl.Vote{}}
	wantSameSnaps(t, "nil and empty", impl.Snap{}, empty, true)
	wantSameSnaps(t, "no signer and an empty one", impl.Snap{}, impl.Snap{Signers: [][]byte{nil}}, false)
	wantSameSnaps(t, "no Recent and an empty one", impl.Snap{}, impl.Snap{Recents: make([]impl.Recent, 1)}, false)
	wantSameSnaps(t, "no Vote and an empty one", impl.Snap{}, impl.Snap{Votes: make([]impl.Vote, 1)}, false)
	nils := impl.Snap{Signers: [][]byte{nil}, Recents: []impl.Recent{{}}, Votes: []impl.Vote{{}}}
	empties := impl.Snap{Signers: [][]byte{{}}, Recents: []impl.Recent{{Signer: []byte{}}}, Votes: []impl.Vote{{Signer: []byte{}, Target: []byte{}}}}
	wantSameSnaps(t, "lists of nil and of empty", nils, empties, true)
	split := impl.Snap{Votes: []impl.Vote{{Signer: fill(3), Target: fill(4)[3:]}}}
	wantSameSnaps(t, "the same bytes, split otherwise", split, impl.Snap{Votes: []impl.Vote{{Signer: fill(2), Target: fill(4)[2:]}}}, false)
}

// Faults do not matter where two are held against each other.
func TestP8SameSnapsOfFaultyOnes(t *testing.T) {
	for _, row := range snapFaultChanges() {
		one, two := withSnap(fullSnap(), row.change), withSnap(fullSnap(), row.change)
		wantSameSnaps(t, "two with one fault", one, two, true)
		wantSameSnaps(t, "one with and one without a fault", one, fullSnap(), false)
	}
	votes := impl.Snap{Votes: []impl.Vote{{Signer: fill(5)}, {Signer: fill(5)}}}
	wantSameSnaps(t, "the same Vote twice and once", votes, impl.Snap{Votes: votes.Votes[:1]}, false)
	long := impl.Snap{Votes: []impl.Vote{{Signer: fill(5)}}}
	wantSameSnaps(t, "addresses that begin alike", long, impl.Snap{Votes: []impl.Vote{{Signer: fill(4)}}}, false)
}
