package tests

import (
	"bytes"
	"cmp"
	"math"
	"math/rand/v2"
	"slices"
	"testing"

	"loop.example/g00383/impl"
)

func wantBetter(t *testing.T, call string, s impl.Store, a int64, b int64, want bool) {
	t.Helper()
	if got := impl.IsBetter(s, a, b); got != want {
		t.Errorf("IsBetter of %s: %d and %d: %v, want %v", call, a, b, got, want)
	}
}

func wantTurn(t *testing.T, call string, got impl.TurnResult, code int64, back []int64, forth []int64) {
	t.Helper()
	if got.Code != code || !slices.Equal(got.Back, back) || !slices.Equal(got.Forth, forth) {
		t.Errorf("%s: %+v, want code %d, back %v and forth %v", call, got, code, back, forth)
	}
}

// What the chapter says, reckoned a second time, of stores without a fault.

// betterAs is below 0 where a is better than b.
func betterAs(a impl.Entry, b impl.Entry) int {
	return cmp.Or(bigOf(b.Total).Cmp(bigOf(a.Total)), cmp.Compare(a.Header.Number, b.Header.Number), bytes.Compare(a.Hash, b.Hash))
}

// rankedAs are all places, the best one first.
func rankedAs(s impl.Store) []int64 {
	var places []int64
	for at := range s.Entries {
		places = append(places, int64(at))
	}
	slices.SortFunc(places, func(a, b int64) int { return betterAs(s.Entries[a], s.Entries[b]) })
	return places
}

func canonAs(s impl.Store) []int64 {
	return lineAs(s, int(rankedAs(s)[0]))
}

// turnAs goes from both ends up at once, always from that of the greater Number, until they meet.
func turnAs(s impl.Store, from int, to int) (back []int64, common int64, forth []int64) {
	number := func(place int) int64 { return s.Entries[place].Header.Number }
	for from != to {
		if number(from) >= number(to) {
			back = append(back, int64(from))
			from = int(s.Entries[from].Up)
			continue
		}
		forth = append([]int64{int64(to)}, forth...)
		to = int(s.Entries[to].Up)
	}
	return back, int64(from), forth
}

// sprout is an entry that is to be put behind another one, and how hard it is.
type sprout struct {
	up   int
	hard int64
}

// weighed is a store without a fault of such entries, behind a first one that is 3 hard, of Number 300. The mark gives it other hashes.
func weighed(mark byte, sprouts ...sprout) impl.Store {
	marked := func(h *impl.Header) { h.Hard, h.Receipts = 3, bytes.Repeat([]byte{mark}, 32) }
	s := firstAs(rare(1+int64(mark)%2), withChange(someHeader(), marked))
	for at, one := range sprouts {
		h := withChange(someHeader(), marked)
		h.Parent, h.Number, h.Time, h.Hard = s.Entries[one.up].Hash, s.Entries[one.up].Header.Number+1, int64(at), one.hard
		s = putAs(s, one.up, h)
	}
	return s
}

// someWeighed are of few weights, so that there are ties of all kinds.
func someWeighed(seed uint64, count int, hards ...int64) impl.Store {
	r := rand.New(rand.NewPCG(111, seed))
	var sprouts []sprout
	for _, up := range someUps(seed, count) {
		sprouts = append(sprouts, sprout{up, hards[r.IntN(len(hards))]})
	}
	return weighed(byte(seed), sprouts...)
}

// forkStores are stores without a fault: with few and many entries and forks, light and heavy.
func forkStores(t *testing.T) []impl.Store {
	t.Helper()
	stores := append(searched(t), knownStore(impl.ModeTurns), knownStore(impl.ModeCommits), weighed(1))
	for seed := range uint64(12) {
		count := 1 + int(seed*2)
		stores = append(stores, someWeighed(seed, count, 0, 1), someWeighed(seed, count, 1, 2), someWeighed(seed, count, 1), someWeighed(seed, count, 0, 2, 9))
	}
	return stores
}

// pairStores are fewer, for what is asked of each two of their places.
func pairStores(t *testing.T) []impl.Store {
	t.Helper()
	great := 0
	return slices.DeleteFunc(forkStores(t), func(s impl.Store) bool {
		if len(s.Entries) > 13 {
			great++
		}
		return len(s.Entries) > 13 && great%6 > 0
	})
}

// replanted is the same store with its entries in another order, in which the parents are ahead too.
func replanted(s impl.Store, order []int) impl.Store {
	moved := impl.Store{Config: s.Config}
	for _, from := range order {
		e := cloneEntry(s.Entries[from])
		e.Up = int64(slices.Index(order, int(e.Up)))
		moved.Entries = append(moved.Entries, e)
	}
	return moved
}

func someOrder(r *rand.Rand, s impl.Store) []int {
	order, waiting := []int{0}, r.Perm(len(s.Entries))
	for len(order) < len(waiting) {
		r.Shuffle(len(waiting), func(i, j int) { waiting[i], waiting[j] = waiting[j], waiting[i] })
		for _, at := range waiting {
			if !slices.Contains(order, at) && slices.Contains(order, int(s.Entries[at].Up)) {
				order = append(order, at)
				break
			}
		}
	}
	return order
}

// wantForkFault: with a code all functions of chapter 11 tell it alone, whatever place and number they are told.
func wantForkFault(t *testing.T, s impl.Store, code int64) {
	t.Helper()
	wantStoreFault(t, "a store", s, code)
	last := int64(len(s.Entries)) - 1
	wantInt(t, "HeadOf a store with a fault", impl.HeadOf(s), code, 0)
	wantInts(t, "CanonOf a store with a fault", impl.CanonOf(s), code, nil)
	for _, number := range []int64{-1, 0, 1, 299, 300, 301, math.MaxInt64} {
		wantInt(t, "AtNumber of a store with a fault", impl.AtNumber(s, number), code, 0)
	}
	places := []int64{-1, 0, last, last + 1}
	for _, a := range places {
		for _, b := range places {
			wantBetter(t, "a store with a fault", s, a, b, false)
			wantInt(t, "CommonOf a store with a fault", impl.CommonOf(s, a, b), code, 0)
			wantTurn(t, "TurnChain of a store with a fault", impl.TurnChain(s, a, b), code, nil, nil)
		}
	}
}

func TestP12OfAStoreWithAFault(t *testing.T) {
	grounds := append(faultyGrounds(t)[1:3], weighed(1, sprout{0, 1}, sprout{0, 2}, sprout{1, 0}))
	for _, s := range grounds {
		for _, change := range configChanges() {
			wantForkFault(t, withStore(s, change), impl.ErrRange)
		}
		for _, at := range []int{0, 2, len(s.Entries) - 1} {
			for i, row := range entryChanges(s, at) {
				if i%3 == 0 || row.stage > 2 {
					wantForkFault(t, faultAt(s, at, row), row.code)
				}
			}
		}
	}
	bare := withChange(someHeader(), func(h *impl.Header) { h.Signers = nil })
	for _, ups := range shapes(24) {
		wantForkFault(t, looseStore(rare(1), someHeader(), ups...), impl.ErrMany)
		wantForkFault(t, looseStore(rare(2), bare, ups[:7]...), impl.ErrNone)
	}
	wantForkFault(t, impl.Store{}, impl.ErrRange)
	wantForkFault(t, impl.Store{Config: rare(1)}, impl.ErrMany)
	wantForkFault(t, impl.Store{Config: rare(2), Entries: make([]impl.Entry, 2)}, impl.ErrForm)
}

// Of two places either may be none, or both: none of them is asked for more.
func TestP12OfNoPlace(t *testing.T) {
	for _, s := range pairStores(t) {
		last := int64(len(s.Entries)) - 1
		there := []int64{0, last / 2, last}
		for _, none := range noPlaces(len(s.Entries)) {
			for _, other := range append(there, none, -1, last+1) {
				for _, two := range [][2]int64{{none, other}, {other, none}} {
					wantBetter(t, "no place", s, two[0], two[1], false)
					wantInt(t, "CommonOf no place", impl.CommonOf(s, two[0], two[1]), impl.ErrRange, 0)
					wantTurn(t, "TurnChain of no place", impl.TurnChain(s, two[0], two[1]), impl.ErrRange, nil, nil)
				}
			}
		}
		for _, a := range there {
			for _, b := range there {
				back, common, forth := turnAs(s, int(a), int(b))
				wantInt(t, "CommonOf the first, the last and one in the midst", impl.CommonOf(s, a, b), impl.OK, common)
				wantTurn(t, "TurnChain of the first, the last and one in the midst", impl.TurnChain(s, a, b), impl.OK, back, forth)
			}
		}
	}
}

// Of headers whose hashes were worked out apart from the program: all places, the best one first.
func TestP12OfKnownStores(t *testing.T) {
	for mode, ranked := range map[int64][]int64{
		// By turns the Totals are 5, 4, 3 and 3 (of Number 1 and 2), 2, 1; with commits 4, 3 and 3, 2 and 2 (of the same Number), 1.
		impl.ModeTurns:   {4, 2, 1, 5, 3, 0},
		impl.ModeCommits: {4, 5, 2, 1, 3, 0},
	} {
		s := knownStore(mode)
		for i, a := range ranked {
			for j, b := range ranked {
				wantBetter(t, "what is known", s, a, b, i < j)
			}
		}
		for at, head := range []int64{0, 1, 2, 2, 4, 4} {
			first := impl.Store{Config: s.Config, Entries: s.Entries[:at+1]}
			wantInt(t, "HeadOf what is known, up to one", impl.HeadOf(first), impl.OK, head)
		}
		wantInts(t, "CanonOf what is known", impl.CanonOf(s), impl.OK, []int64{0, 1, 2, 4})
		for number, place := range []int64{0, 1, 2, 4} {
			wantInt(t, "AtNumber of what is known", impl.AtNumber(s, int64(number)), impl.OK, place)
		}
		wantInt(t, "AtNumber ahead of what is known", impl.AtNumber(s, -1), impl.ErrNone, 0)
		wantInt(t, "AtNumber behind what is known", impl.AtNumber(s, 4), impl.ErrNone, 0)
		wantInt(t, "CommonOf what is known", impl.CommonOf(s, 4, 5), impl.OK, 0)
		wantTurn(t, "TurnChain of what is known", impl.TurnChain(s, 4, 5), impl.OK, []int64{4, 2, 1}, []int64{3, 5})
		wantTurn(t, "TurnChain of what is known", impl.TurnChain(s, 5, 4), impl.OK, []int64{5, 3}, []int64{1, 2, 4})
	}
}

// More weight, then a lower Number, then a Hash that is ahead: each of them whatever the ones behind it say.
func TestP12IsBetterOfEachKind(t *testing.T) {
	type kind struct{ total, number, hash int }
	seen := map[kind]int{}
	for seed := range uint64(60) {
		s := someWeighed(seed, 10, 0, 1, 2)
		for a, one := range s.Entries {
			for b, other := range s.Entries {
				is := kind{bigOf(one.Total).Cmp(bigOf(other.Total)), cmp.Compare(one.Header.Number, other.Header.Number), bytes.Compare(one.Hash, other.Hash)}
				want := is.total > 0
				if is.total == 0 {
					want = is.number < 0
				}
				if is.total == 0 && is.number == 0 {
					want = is.hash < 0
				}
				wantBetter(t, "some kind", s, int64(a), int64(b), want)
				seen[is]++
			}
		}
	}
	for _, total := range []int{-1, 0, 1} {
		for _, number := range []int{-1, 0, 1} {
			for _, hash := range []int{-1, 1} {
				if n := seen[kind{total, number, hash}]; n < 10 {
					t.Errorf("of Totals %d, Numbers %d and hashes %d there were %d", total, number, hash, n)
				}
			}
		}
	}
}

// Written out: the weights tell it, and no hash is asked.
func TestP12IsBetterWrittenOut(t *testing.T) {
	for mark := range byte(20) {
		s := weighed(mark, sprout{0, 4}, sprout{0, 1}, sprout{2, 3}, sprout{0, 5}, sprout{2, 2}, sprout{3, 0})
		// The Totals are 3, 7, 4, 7, 8, 6, 7; the Numbers 300, 301, 301, 302, 301, 302, 303.
		ranked := []int64{4, 1, 3, 6, 5, 2, 0}
		for i, a := range ranked {
			for j, b := range ranked {
				wantBetter(t, "what is written out", s, a, b, i < j)
			}
		}
	}
}

// Of two places just one is better, and none is better than itself.
func TestP12OfTwoPlacesOneIsBetter(t *testing.T) {
	for _, s := range pairStores(t) {
		for a, one := range s.Entries {
			wantBetter(t, "a place and itself", s, int64(a), int64(a), false)
			for b, other := range s.Entries[:a] {
				order := betterAs(one, other)
				wantBetter(t, "two places", s, int64(a), int64(b), order < 0)
				wantBetter(t, "two places", s, int64(b), int64(a), order > 0)
			}
		}
	}
}

// wantHead: it is there, and better than all others, which are not better than it.
func wantHead(t *testing.T, call string, s impl.Store, head int64) {
	t.Helper()
	wantInt(t, "HeadOf "+call, impl.HeadOf(s), impl.OK, head)
	for other := range int64(len(s.Entries)) {
		wantBetter(t, "the head of "+call, s, head, other, other != head)
		wantBetter(t, "one that is not the head of "+call, s, other, head, false)
	}
	wantInts(t, "CanonOf "+call, impl.CanonOf(s), impl.OK, lineAs(s, int(head)))
	wantInts(t, "LineOf the head of "+call, impl.LineOf(s, head), impl.OK, impl.CanonOf(s).List)
}

func TestP12HeadOf(t *testing.T) {
	for _, s := range forkStores(t) {
		wantHead(t, "some store", s, rankedAs(s)[0])
	}
}

// Each place may be that of the head, the first and the last one too, with 24 entries and with few.
func TestP12HeadOfEachPlace(t *testing.T) {
	for _, count := range []int{0, 1, 2, 9, 22, 23} {
		for head := range count + 1 {
			for _, ups := range [][]int{starUps(count), someUps(uint64(head), count)} {
				var sprouts []sprout
				for at, up := range ups {
					// What is behind the head weighs nothing, and all else less than it does.
					hard := int64(0)
					if at+1 == head {
						hard = 9
					}
					sprouts = append(sprouts, sprout{up, hard})
				}
				wantHead(t, "a head that is told", weighed(byte(head), sprouts...), int64(head))
			}
		}
	}
}

// The same weight: the lower Number is the head, be it put first or last, whatever the hashes are.
func TestP12HeadOfNumberTies(t *testing.T) {
	hashes := map[int]int{}
	for mark := range byte(30) {
		early := weighed(mark, sprout{0, 2}, sprout{0, 1}, sprout{2, 1})
		wantHead(t, "a lower Number that was put first", early, 1)
		late := weighed(mark, sprout{0, 1}, sprout{1, 1}, sprout{0, 2})
		wantHead(t, "a lower Number that was put last", late, 3)
		wantHead(t, "a lower Number in the midst", weighed(mark, sprout{0, 1}, sprout{0, 2}, sprout{1, 1}), 2)
		wantHead(t, "those behind it weigh nothing", weighed(mark, sprout{0, 0}, sprout{1, 0}, sprout{2, 0}), 0)
		wantHead(t, "those behind one weigh nothing", weighed(mark, sprout{0, 1}, sprout{1, 0}, sprout{2, 0}), 1)
		hashes[bytes.Compare(early.Entries[1].Hash, early.Entries[3].Hash)]++
		hashes[bytes.Compare(late.Entries[3].Hash, late.Entries[2].Hash)]++
	}
	if hashes[-1] < 10 || hashes[1] < 10 {
		t.Errorf("the hashes were ahead and behind: %v", hashes)
	}
}

// The same weight and Number: the Hash that is ahead is the head, wherever it was put.
func TestP12HeadOfHashTies(t *testing.T) {
	places := map[int64]int{}
	for mark := range byte(40) {
		s := weighed(mark, sprout{0, 1}, sprout{0, 1}, sprout{0, 1}, sprout{0, 1})
		head := int64(1)
		for at := int64(2); at <= 4; at++ {
			if bytes.Compare(s.Entries[at].Hash, s.Entries[head].Hash) < 0 {
				head = at
			}
		}
		wantHead(t, "four of the same weight and Number", s, head)
		places[head]++
		// Their order turned round.
		wantHead(t, "four the other way round", replanted(s, []int{0, 4, 3, 2, 1}), 5-head)
		deep := weighed(mark, sprout{0, 1}, sprout{0, 2}, sprout{1, 2}, sprout{2, 1})
		head = 3
		if bytes.Compare(deep.Entries[4].Hash, deep.Entries[3].Hash) < 0 {
			head = 4
		}
		wantHead(t, "two branches of the same weight", deep, head)
		wantHead(t, "two branches the other way round", replanted(deep, []int{0, 1, 2, 4, 3}), 7-head)
	}
	for at := int64(1); at <= 4; at++ {
		if places[at] < 3 {
			t.Errorf("the head was at %d %d times", at, places[at])
		}
	}
}

// The head does not hang on the order in which the entries came.
func TestP12HeadOfWhateverOrder(t *testing.T) {
	r := rand.New(rand.NewPCG(112, 1))
	for _, s := range forkStores(t) {
		hash := s.Entries[impl.HeadOf(s).Value].Hash
		for range 4 {
			moved := replanted(s, someOrder(r, s))
			wantStoreFault(t, "a store in another order", moved, impl.OK)
			head := impl.HeadOf(moved)
			if head.Code != impl.OK || !bytes.Equal(moved.Entries[head.Value].Hash, hash) {
				t.Errorf("the head in another order: %+v of %+v", head, moved)
			}
			wantInts(t, "CanonOf another order", impl.CanonOf(moved), impl.OK, canonAs(moved))
		}
	}
}

func TestP12CanonOf(t *testing.T) {
	without := 0
	for _, s := range forkStores(t) {
		canon := impl.CanonOf(s)
		wantInts(t, "CanonOf", canon, impl.OK, canonAs(s))
		wantInts(t, "LineOf the head", impl.LineOf(s, impl.HeadOf(s).Value), impl.OK, canon.List)
		if !slices.Contains(canon.List, int64(len(s.Entries))-1) {
			without++
		}
	}
	if without < 20 {
		t.Errorf("the last entry was not in it %d times", without)
	}
}

// Written out: the longest branch, and the last one put, is not the heaviest.
func TestP12CanonOfWrittenOut(t *testing.T) {
	for mark := range byte(8) {
		s := weighed(mark, sprout{0, 1}, sprout{1, 1}, sprout{0, 2}, sprout{3, 2}, sprout{2, 1}, sprout{5, 0}, sprout{0, 3})
		wantInts(t, "CanonOf a heavy branch", impl.CanonOf(s), impl.OK, []int64{0, 3, 4})
		wantInts(t, "CanonOf of one entry", impl.CanonOf(weighed(mark)), impl.OK, []int64{0})
		wantInts(t, "CanonOf with nothing behind the first one", impl.CanonOf(weighed(mark, sprout{0, 0}, sprout{1, 0})), impl.OK, []int64{0})
		wantInts(t, "CanonOf one line", impl.CanonOf(weighed(mark, sprout{0, 1}, sprout{1, 1}, sprout{2, 1})), impl.OK, []int64{0, 1, 2, 3})
		for number, place := range map[int64]int64{300: 0, 301: 3, 302: 4} {
			wantInt(t, "AtNumber of the heavy branch", impl.AtNumber(s, number), impl.OK, place)
		}
		for _, number := range []int64{299, 303, 304, 0, 1, 2, -1, 4, 7} {
			wantInt(t, "AtNumber of none in the heavy branch", impl.AtNumber(s, number), impl.ErrNone, 0)
		}
	}
}

func TestP12AtNumber(t *testing.T) {
	beside := 0
	for _, s := range forkStores(t) {
		first, canon := s.Entries[0].Header.Number, canonAs(s)
		for i, place := range canon {
			wantInt(t, "AtNumber of each of the chain", impl.AtNumber(s, first+int64(i)), impl.OK, place)
		}
		end := first + int64(len(canon))
		for _, number := range []int64{first - 1, first - 2, end, end + 1, -1, math.MinInt64, math.MaxInt64, topNumber, topNumber + 1, first + 1<<32, first - 1<<32} {
			wantInt(t, "AtNumber of none", impl.AtNumber(s, number), impl.ErrNone, 0)
		}
		// Those of side branches alone.
		for _, e := range s.Entries {
			if e.Header.Number >= end {
				wantInt(t, "AtNumber of a side branch", impl.AtNumber(s, e.Header.Number), impl.ErrNone, 0)
				beside++
			}
		}
	}
	if beside < 20 {
		t.Errorf("there were %d entries with a Number that the chain does not have", beside)
	}
}

// First headers of whatever Number: 0, the last that there may be, and between.
func TestP12AtNumberOfFirstHeaders(t *testing.T) {
	for _, number := range []int64{0, 1, 2, 300, 1 << 32, topNumber - 3, topNumber} {
		genesis := withChange(someHeader(), func(h *impl.Header) { h.Number = number })
		s := firstAs(rare(1), genesis)
		if number < topNumber {
			s = looseStore(rare(1), genesis, 0, 1, 1)
		}
		canon := canonAs(s)
		for i, place := range canon {
			wantInt(t, "AtNumber of a chain", impl.AtNumber(s, number+int64(i)), impl.OK, place)
		}
		wantInt(t, "AtNumber ahead of the first one", impl.AtNumber(s, number-1), impl.ErrNone, 0)
		wantInt(t, "AtNumber behind the last one", impl.AtNumber(s, number+int64(len(canon))), impl.ErrNone, 0)
		if number > 3 {
			for place := range int64(4) {
				wantInt(t, "AtNumber of a place that is no Number", impl.AtNumber(s, place), impl.ErrNone, 0)
			}
		}
	}
}

// What may follow is put, one by one: the head is the best one each time.
func TestP12HeadOfWhatIsPut(t *testing.T) {
	r := rand.New(rand.NewPCG(113, 1))
	moved := 0
	for _, mode := range modes() {
		for _, ups := range shapes(23) {
			g := groveOf(t, r.Uint64(), mode)
			s := impl.NewStore(g.store.Config, g.store.Entries[0].Header).Store
			wantHead(t, "a new store", s, 0)
			for _, up := range ups {
				h := g.some(r, up)
				g = g.grown(t, up, h)
				before := impl.HeadOf(s)
				put := impl.AddHeader(s, h)
				s = put.Store
				head := impl.HeadOf(s)
				wantInt(t, "HeadOf what was put", head, impl.OK, rankedAs(g.store)[0])
				// Only what was put can be better than what was the best.
				if head.Value != before.Value && head.Value != put.Place {
					t.Errorf("the head was %d and is %d, and %d was put", before.Value, head.Value, put.Place)
				}
				if head.Value != before.Value {
					moved++
				}
				wantInts(t, "CanonOf what was put", impl.CanonOf(s), impl.OK, canonAs(g.store))
			}
		}
	}
	if moved < 60 {
		t.Errorf("the head moved %d times", moved)
	}
}
