package tests

import (
	"encoding/hex"
	"fmt"
	"math/rand/v2"
	"reflect"
	"regexp"
	"slices"
	"strconv"
	"strings"
	"testing"

	"loop.example/g00383/impl"
)

func wantWords(t *testing.T, line string, words ...string) {
	t.Helper()
	got := impl.WordsOf(line)
	if got.Code != impl.OK || !slices.Equal(got.Words, words) {
		t.Errorf("WordsOf %.80q: %.200q and code %d, want %.200q", line, got.Words, got.Code, words)
	}
}

// What the chapter says, reckoned a second time.

func wordsAs(line string) []string {
	var words []string
	begun := false
	for _, b := range []byte(line) {
		switch {
		case b == 32:
			begun = false
		case begun:
			words[len(words)-1] += string([]byte{b})
		default:
			words, begun = append(words, string([]byte{b})), true
		}
	}
	return words
}

func snapTextAs(x impl.Snap) string {
	text := fmt.Sprintf("snap %d of", x.Number)
	for _, signer := range x.Signers {
		text += fmt.Sprintf(" %x", signer)
	}
	text += " recents"
	for _, r := range x.Recents {
		text += fmt.Sprintf(" %d %x", r.Number, r.Signer)
	}
	text += " votes"
	for _, v := range x.Votes {
		text += fmt.Sprintf(" %x %s%x", v.Signer, map[bool]string{true: "+", false: "-"}[v.Add], v.Target)
	}
	return text
}

// clientTextAs is for Totals of one limb alone: no more come of 24 headers.
func clientTextAs(c impl.Client) string {
	text := ""
	for place, e := range c.Store.Entries {
		text += fmt.Sprintf("entry %d %d %x %d %x\n", place, e.Header.Number, e.Hash[:4], e.Up, e.Total[0])
	}
	return text + fmt.Sprintf("head %d kept %d orphans %d\n", rankedAs(c.Store)[0], len(c.Cache.Kept), len(c.Orphans))
}

func TestP17Constants(t *testing.T) {
	if impl.MaxScript != 3000 || impl.MaxLines != 16 {
		t.Error("a constant is another one")
	}
}

func TestP17WordsOf(t *testing.T) {
	wantWords(t, "")
	wantWords(t, " ")
	wantWords(t, "          ")
	wantWords(t, "one", "one")
	wantWords(t, " one", "one")
	wantWords(t, "one ", "one")
	wantWords(t, "   one  ", "one")
	wantWords(t, "one two", "one", "two")
	wantWords(t, "one  two    three", "one", "two", "three")
	wantWords(t, "  one  two ", "one", "two")
	wantWords(t, "a b c d", "a", "b", "c", "d")
	wantWords(t, "a a a", "a", "a", "a")
	wantWords(t, "next 0 1 3 1", "next", "0", "1", "3", "1")
	// What looks like a blank is none.
	wantWords(t, "\t", "\t")
	wantWords(t, "\n", "\n")
	wantWords(t, "a\tb", "a\tb")
	wantWords(t, "a\nb \n", "a\nb", "\n")
	wantWords(t, " \t a\r\n \v\f", "\t", "a\r\n", "\v\f")
	wantWords(t, "a\x00b \x00", "a\x00b", "\x00")
	wantWords(t, "a\xa0b \xa0", "a\xa0b", "\xa0")
	wantWords(t, "a\u00a0b \u2003 \u3000", "a\u00a0b", "\u2003", "\u3000")
	wantWords(t, "\xff \x80\x81 \xc3", "\xff", "\x80\x81", "\xc3")
	wantWords(t, "\xe2\x80 \x83", "\xe2\x80", "\x83")
}

// Of all bytes that one alone parts words.
func TestP17WordsOfEachByte(t *testing.T) {
	for b := range 256 {
		piece := string([]byte{byte(b)})
		if b == 32 {
			wantWords(t, "a"+piece+"b", "a", "b")
			continue
		}
		wantWords(t, piece, piece)
		wantWords(t, "a"+piece+"b", "a"+piece+"b")
		wantWords(t, " "+piece+" "+piece+piece+" ", piece, piece+piece)
	}
}

// All lines of up to seven bytes out of a few: no word is empty or has a blank, and behind each other they are all of the line but its blanks.
func TestP17WordsOfEachLine(t *testing.T) {
	lines := []string{""}
	for from := 0; from < len(lines); from++ {
		line := lines[from]
		words := impl.WordsOf(line).Words
		wantWords(t, line, wordsAs(line)...)
		if slices.ContainsFunc(words, func(word string) bool { return word == "" || strings.Contains(word, " ") }) {
			t.Errorf("WordsOf %q: %q", line, words)
		}
		if strings.Join(words, "") != strings.ReplaceAll(line, " ", "") {
			t.Errorf("WordsOf %q has other bytes: %q", line, words)
		}
		wantWords(t, strings.Join(words, " "), words...)
		wantWords(t, "  "+strings.Join(words, "   ")+" ", words...)
		if len(line) < 7 {
			for _, piece := range []string{" ", "a", "\n", "\xa0"} {
				lines = append(lines, line+piece)
			}
		}
	}
}

func TestP17WordsOfLongLines(t *testing.T) {
	long := strings.Repeat("x", 1<<16)
	wantWords(t, long, long)
	wantWords(t, strings.Repeat(" ", 1<<16))
	wantWords(t, " "+long+"  "+long, long, long)
	wantWords(t, strings.Repeat("ab ", 1<<14), slices.Repeat([]string{"ab"}, 1<<14)...)
}

// Written out by hand.
func TestP17SnapText(t *testing.T) {
	a, b, c := addr(1), []byte{0xff, 0x0a, 0, 0x90}, addr(0x0a0b0c0d)
	for want, x := range map[string]impl.Snap{
		"snap 0 of 00000001 recents votes":                                               {Signers: [][]byte{a}},
		"snap 7 of 00000001 ff0a0090 recents votes":                                      {Number: 7, Signers: [][]byte{a, b}},
		"snap 1099511627776 of 00000001 recents 0 00000001 1099511627776 ff0a0090 votes": {Number: topNumber, Signers: [][]byte{a}, Recents: []impl.Recent{{Number: 0, Signer: a}, {Number: topNumber, Signer: b}}},
		"snap 12 of 00000001 ff0a0090 recents votes 00000001 +0a0b0c0d":                  {Number: 12, Signers: [][]byte{a, b}, Votes: []impl.Vote{voteOf(a, c, true)}},
		"snap 12 of 00000001 ff0a0090 recents votes ff0a0090 -ff0a0090":                  {Number: 12, Signers: [][]byte{a, b}, Votes: []impl.Vote{voteOf(b, b, false)}},
		"snap 9 of 00000001 0a0b0c0d ff0a0090 recents 8 ff0a0090 9 00000001 votes ff0a0090 +00000002 00000001 -0a0b0c0d ff0a0090 -00000001 00000001 +00000002": {
			Number: 9, Signers: [][]byte{a, c, b}, Recents: []impl.Recent{{Number: 8, Signer: b}, {Number: 9, Signer: a}},
			Votes: []impl.Vote{voteOf(b, addr(2), true), voteOf(a, c, false), voteOf(b, a, false), voteOf(a, addr(2), true)},
		},
	} {
		wantText(t, "SnapText", impl.SnapText(x), impl.OK, want)
		if told := snapTextAs(x); told != want {
			t.Errorf("by the chapter it is %q, the test wants %q", told, want)
		}
	}
}

func TestP17SnapTextTheFirstCode(t *testing.T) {
	told := map[int64]int{}
	rows := snapFaultChanges()
	for _, good := range []impl.Snap{fullSnap(), someSnap()} {
		wantText(t, "SnapText", impl.SnapText(good), impl.OK, snapTextAs(good))
		for i, row := range rows {
			wantText(t, "SnapText of one with a fault", impl.SnapText(withSnap(good, row.change)), row.code, "")
			told[row.code]++
			for _, behind := range rows[i+1:] {
				if behind.stage > row.stage {
					two := withSnap(withSnap(good, row.change), behind.change)
					wantText(t, "SnapText of one with two faults", impl.SnapText(two), row.code, "")
				}
			}
		}
	}
	twice := withSnap(someSnap(), func(x *impl.Snap) { x.Votes = append(x.Votes, x.Votes[1]) })
	wantText(t, "SnapText of a vote that is there twice", impl.SnapText(twice), impl.ErrTaken, "")
	told[impl.ErrTaken]++
	wantText(t, "SnapText of nothing", impl.SnapText(impl.Snap{}), impl.ErrNone, "")
	for _, code := range []int64{impl.ErrForm, impl.ErrMany, impl.ErrRange, impl.ErrNone, impl.ErrTaken, impl.ErrRule} {
		if told[code] < 1 {
			t.Errorf("the code %d is never told", code)
		}
	}
}

// snapRead reads a text back; where it is none of a snapshot it tells why.
func snapRead(text string) (impl.Snap, error) {
	one, number := "[0-9a-f]{8}", "(?:0|[1-9][0-9]*)"
	form := regexp.MustCompile("^snap (" + number + ") of((?: " + one + ")+) recents((?: " + number + " " + one + ")*) votes((?: " + one + " [+-]" + one + ")*)$")
	parts := form.FindStringSubmatch(text)
	if parts == nil {
		return impl.Snap{}, fmt.Errorf("no snapshot: %q", text)
	}
	var x impl.Snap
	x.Number, _ = strconv.ParseInt(parts[1], 10, 64)
	for _, word := range strings.Fields(parts[2]) {
		x.Signers = append(x.Signers, unhex(word))
	}
	for pair := range slices.Chunk(strings.Fields(parts[3]), 2) {
		n, _ := strconv.ParseInt(pair[0], 10, 64)
		x.Recents = append(x.Recents, impl.Recent{Number: n, Signer: unhex(pair[1])})
	}
	for pair := range slices.Chunk(strings.Fields(parts[4]), 2) {
		x.Votes = append(x.Votes, impl.Vote{Signer: unhex(pair[0]), Target: unhex(pair[1][1:]), Add: pair[1][0] == '+'})
	}
	return x, nil
}

// wantSnapSaid: what is said of a snapshot is what it is.
func wantSnapSaid(t *testing.T, x impl.Snap) {
	t.Helper()
	got := impl.SnapText(x)
	wantText(t, "SnapText", got, impl.OK, snapTextAs(x))
	if back, err := snapRead(got.Text); err != nil || !equalSnaps(back, x) {
		t.Errorf("%q is read back as %+v, %v; it was %+v", got.Text, back, err, x)
	}
}

func TestP17SnapTextIsWhatTheSnapshotIs(t *testing.T) {
	for _, x := range goodSnaps() {
		wantSnapSaid(t, x)
	}
	for _, x := range []impl.Snap{fullSnap(), someSnap()} {
		for call, change := range snapFieldChanges() {
			changed := withSnap(x, change)
			if code := snapFaultAs(changed); code != impl.OK {
				wantText(t, "SnapText with "+call, impl.SnapText(changed), code, "")
				continue
			}
			wantSnapSaid(t, changed)
			if impl.SnapText(changed).Text == impl.SnapText(x).Text {
				t.Errorf("SnapText is the same with %s", call)
			}
		}
	}
	for seed := range uint64(4) {
		walkSnaps(t, 160+seed, 300, func(x impl.Snap, _ impl.Vote, got impl.SnapResult) {
			if got.Code == impl.OK {
				wantSnapSaid(t, got.Snap)
			}
		})
	}
	r := rand.New(rand.NewPCG(161, 1))
	told := map[int64]int{}
	for range 3000 {
		x := looseSnap(r)
		code := snapFaultAs(x)
		told[code]++
		if code != impl.OK {
			wantText(t, "SnapText of any", impl.SnapText(x), code, "")
			continue
		}
		wantSnapSaid(t, x)
	}
	for _, code := range []int64{impl.OK, impl.ErrForm, impl.ErrRange, impl.ErrNone, impl.ErrTaken, impl.ErrRule} {
		if told[code] < 20 {
			t.Errorf("the code %d was told %d times", code, told[code])
		}
	}
}

// Written out by hand, with the hashes that were worked out apart from the program.
func TestP17ClientText(t *testing.T) {
	for mode, entries := range map[int64]string{
		impl.ModeTurns:   "entry 0 0 abc99c81 -1 1\nentry 1 1 72e617e1 0 3\nentry 2 2 5af96b70 1 4\nentry 3 1 7a523193 0 2\nentry 4 3 6254269e 2 5\nentry 5 2 4858a0cc 3 3\n",
		impl.ModeCommits: "entry 0 0 abc99c81 -1 1\nentry 1 1 57eb6072 0 2\nentry 2 2 f7141c73 1 3\nentry 3 1 7a523193 0 2\nentry 4 3 3f769400 2 4\nentry 5 2 4858a0cc 3 3\n",
	} {
		s := knownStore(mode)
		wantText(t, "ClientText", impl.ClientText(clientOf(s, nil, 0)), impl.OK, entries+"head 4 kept 0 orphans 0\n")
		wantText(t, "ClientText with kept ones", impl.ClientText(clientOf(s, nil, 5, 4, 1)), impl.OK, entries+"head 4 kept 2 orphans 0\n")
		wantText(t, "ClientText with orphans", impl.ClientText(clientOf(s, strays(3), 5)), impl.OK, entries+"head 4 kept 0 orphans 3\n")
		wantText(t, "ClientText of all", impl.ClientText(clientOf(s, strays(6), 5, 4, 2, 0, 5, 1)), impl.OK, entries+"head 4 kept 5 orphans 6\n")
		first, _, _ := strings.Cut(entries, "entry 1")
		begun := impl.NewClient(s.Config, s.Entries[0].Header, 3).Client
		wantText(t, "ClientText of a new client", impl.ClientText(begun), impl.OK, first+"head 0 kept 0 orphans 0\n")
		// One that may not follow is an entry as any other one.
		strayed := clientOf(strayedStore(mode), strays(1), 2, 5)
		hashes := strayed.Store.Entries
		total := hashes[4].Total[0] + hashes[6].Header.Hard
		want := fmt.Sprintf("%sentry 6 4 %x 4 %d\nentry 7 5 %x 6 %d\nhead %d kept 1 orphans 1\n", entries, hashes[6].Hash[:4], total, hashes[7].Hash[:4], total, rankedAs(strayed.Store)[0])
		wantText(t, "ClientText with one that may not follow", impl.ClientText(strayed), impl.OK, want)
	}
}

// Of entries of one Total that of the lower Number is the head, and of one Number that whose Hash is ahead.
func TestP17ClientTextOfTies(t *testing.T) {
	for _, mode := range modes() {
		heads := map[int]int{}
		for seed := range uint64(8) {
			r := rand.New(rand.NewPCG(162, seed))
			genesis := impl.GenesisOf(risingAddrs(5), randomBytes(r, 32)).Header
			g := planted(impl.Config{Mode: mode, Period: 2, Epoch: 90}, genesis)
			// The same signer each time, so that the Totals are the same.
			for range 3 {
				d := g.draft(0, risingAddrs(5)[4])
				d.next.Receipts = randomBytes(r, 32)
				g = g.grown(t, 0, d.finished().next)
			}
			c := clientOf(g.store, nil, 0)
			best := slices.MinFunc([]int{1, 2, 3}, func(a int, b int) int {
				return strings.Compare(hex.EncodeToString(g.store.Entries[a].Hash), hex.EncodeToString(g.store.Entries[b].Hash))
			})
			heads[best]++
			if got := impl.ClientText(c).Text; !strings.HasSuffix(got, fmt.Sprintf("\nhead %d kept 0 orphans 0\n", best)) {
				t.Errorf("ClientText: %q, want the head %d", got, best)
			}
		}
		if len(heads) < 2 {
			t.Errorf("the heads are %v alone", heads)
		}
	}
}

// A Total of more than one digit, and of letters.
func TestP17ClientTextOfTotals(t *testing.T) {
	genesis := withChange(impl.GenesisOf(risingAddrs(1), fill(32)).Header, func(h *impl.Header) { h.Hard, h.Number = 9, topNumber-23 })
	g := planted(rare(impl.ModeCommits), genesis)
	for at := range 23 {
		g = g.grown(t, at, g.draft(at, risingAddrs(1)[0]).finished().next)
	}
	got := impl.ClientText(clientOf(g.store, nil, 1, 23)).Text
	for at, total := range []string{"9", "a", "b", "c", "d", "e", "f", "10", "11", "12", "13", "14", "15", "16", "17", "18", "19", "1a", "1b", "1c", "1d", "1e", "1f", "20"} {
		want := fmt.Sprintf("entry %d %d %x %d %s\n", at, topNumber-23+at, g.store.Entries[at].Hash[:4], at-1, total)
		if !strings.Contains(got, want) {
			t.Errorf("ClientText has no %q: %q", want, got)
		}
	}
	if !strings.HasSuffix(got, "\nhead 23 kept 1 orphans 0\n") {
		t.Errorf("ClientText: %q", got)
	}
}

// clientSaid is what may be read back of the text of a client.
type clientSaid struct {
	Numbers, Ups, Totals []int64
	Hashes               []string
	Head, Kept, Orphans  int64
}

func clientRead(text string) (clientSaid, error) {
	entry := regexp.MustCompile(`^entry (0|[1-9][0-9]*) (0|[1-9][0-9]*) ([0-9a-f]{8}) (-1|0|[1-9][0-9]*) (0|[1-9a-f][0-9a-f]*)$`)
	last := regexp.MustCompile(`^head (0|[1-9][0-9]*) kept ([0-5]) orphans ([0-6])$`)
	number := func(word string, base int) int64 {
		n, _ := strconv.ParseInt(word, base, 64)
		return n
	}
	var said clientSaid
	lines := strings.SplitAfter(text, "\n")
	if len(lines) < 3 || lines[len(lines)-1] != "" {
		return said, fmt.Errorf("no lines: %q", text)
	}
	for at, line := range lines[:len(lines)-2] {
		parts := entry.FindStringSubmatch(strings.TrimSuffix(line, "\n"))
		if parts == nil || number(parts[1], 10) != int64(at) {
			return said, fmt.Errorf("no entry at %d: %q", at, line)
		}
		said.Numbers, said.Hashes = append(said.Numbers, number(parts[2], 10)), append(said.Hashes, parts[3])
		said.Ups, said.Totals = append(said.Ups, number(parts[4], 10)), append(said.Totals, number(parts[5], 16))
	}
	parts := last.FindStringSubmatch(strings.TrimSuffix(lines[len(lines)-2], "\n"))
	if parts == nil {
		return said, fmt.Errorf("no last line: %q", text)
	}
	said.Head, said.Kept, said.Orphans = number(parts[1], 10), number(parts[2], 10), number(parts[3], 10)
	return said, nil
}

// wantClientSaid: what is said of a client is what it is, and what other functions tell of it.
func wantClientSaid(t *testing.T, call string, c impl.Client) {
	t.Helper()
	got := impl.ClientText(c)
	wantText(t, "ClientText of "+call, got, impl.OK, clientTextAs(c))
	want := clientSaid{Head: impl.HeadOf(c.Store).Value, Kept: int64(len(c.Cache.Kept)), Orphans: int64(len(c.Orphans))}
	for _, e := range c.Store.Entries {
		want.Numbers, want.Ups = append(want.Numbers, e.Header.Number), append(want.Ups, e.Up)
		want.Totals, want.Hashes = append(want.Totals, e.Total[0]), append(want.Hashes, hex.EncodeToString(e.Hash)[:8])
	}
	if back, err := clientRead(got.Text); err != nil || !reflect.DeepEqual(back, want) {
		t.Errorf("%s: %q is read back as %+v, %v; want %+v", call, got.Text, back, err, want)
	}
	if head := impl.HeadIn(c); !equalHeaders(head.Header, c.Store.Entries[want.Head].Header) {
		t.Errorf("%s: the head is said to be %d", call, want.Head)
	}
}

func TestP17ClientTextIsWhatTheClientIs(t *testing.T) {
	for _, mode := range modes() {
		for _, s := range []impl.Store{knownStore(mode), strayedStore(mode), fullOf(strayedStore(mode))} {
			for _, c := range askedClients(s) {
				wantClientSaid(t, "a known client", c)
			}
		}
	}
	for _, count := range []int{0, 1, 2, 9, 23} {
		for i, g := range someGroves(t, count) {
			wantClientSaid(t, "any client", clientOf(g.store, strays(i%7), int64(i%6)))
			wantClientSaid(t, "any client that keeps one", clientOf(g.store, strays(i%7), 5, int64(count)))
		}
	}
}

func TestP17ClientTextTheFirstCode(t *testing.T) {
	for _, row := range faultyClients() {
		wantText(t, "ClientText of a client with a fault", impl.ClientText(row.client), row.code, "")
	}
}

// faultyClient is a client with a fault, and its code.
type faultyClient struct {
	client impl.Client
	code   int64
}

// faultyClients have each fault that there is, of the store, of the cache and of orphans; and two at once.
func faultyClients() []faultyClient {
	rows := []faultyClient{{impl.Client{}, impl.ErrRange}}
	for _, mode := range modes() {
		s := strayedStore(mode)
		base := clientOf(s, strays(6), 5, 4, 2, 0, 5, 1)
		change := func(code int64, changes ...func(c *impl.Client)) {
			rows = append(rows, faultyClient{withClient(base, changes...), code})
		}
		change(impl.ErrRange, func(c *impl.Client) { c.Store.Config.Period = 101 })
		change(impl.ErrMany, func(c *impl.Client) { c.Store.Entries = nil })
		for i, row := range entryChanges(s, 4) {
			if i%5 == 0 {
				change(row.code, func(c *impl.Client) { c.Store = faultAt(s, 4, row) })
			}
		}
		for _, row := range cacheChanges() {
			change(row.code, func(c *impl.Client) { row.change(&c.Cache) })
		}
		for i, row := range keptChanges(4) {
			if i%3 == 0 {
				change(row.code, func(c *impl.Client) { row.change(&c.Cache, 4) })
			}
		}
		change(impl.ErrMany, func(c *impl.Client) { c.Orphans = strays(7) })
		for i, row := range orphanChanges(5) {
			if i%2 == 0 {
				change(row.code, func(c *impl.Client) { row.change(c, 5) })
				change(impl.ErrRange, func(c *impl.Client) { row.change(c, 5) }, func(c *impl.Client) { c.Cache.Size = -1 })
			}
		}
		bare := withChange(someHeader(), func(h *impl.Header) { h.Signers = nil })
		rows = append(rows, faultyClient{impl.Client{Store: looseStore(s.Config, bare, 0)}, impl.ErrNone})
	}
	return rows
}

// Each code that ClientFault has, and no client in the list without one.
func TestP17FaultyClients(t *testing.T) {
	told := map[int64]int{}
	for _, row := range faultyClients() {
		wantClientCode(t, "a client with a fault", row.client, row.code)
		told[row.code]++
	}
	for _, code := range []int64{impl.ErrForm, impl.ErrMany, impl.ErrRange, impl.ErrNone, impl.ErrTaken, impl.ErrSign, impl.ErrState} {
		if told[code] == 0 {
			t.Errorf("the code %d is never told", code)
		}
	}
	if told[impl.OK] > 0 {
		t.Error("a client has no fault")
	}
}
