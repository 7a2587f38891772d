package tests

import (
	"fmt"
	"math"
	"math/rand/v2"
	"slices"
	"testing"

	"loop.example/g00383/impl"
)

// configModes are Modes at their bounds and around them, and such as are right once they are cut to fewer bits.
func configModes() []int64 {
	return []int64{math.MinInt64, math.MinInt64 + 1, -2, -1, 0, 1, 2, 3, 4, 257, 1<<32 + 1, 1<<32 + 2, math.MaxInt64}
}

// spans are Periods and Epochs so.
func spans() []int64 {
	return []int64{math.MinInt64, math.MinInt64 + 1, -100, -1, 0, 1, 2, 9, 10, 50, 99, 100, 101, 200, 257, 1<<32 + 1, math.MaxInt64}
}

func eachConfig(modes []int64, spans []int64) []impl.Config {
	var list []impl.Config
	for _, mode := range modes {
		for _, period := range spans {
			for _, epoch := range spans {
				list = append(list, impl.Config{Mode: mode, Period: period, Epoch: epoch})
			}
		}
	}
	return list
}

// configFaultAs is what the chapter says of a setting.
func configFaultAs(c impl.Config) int64 {
	if c.Mode != 1 && c.Mode != 2 || c.Period < 1 || c.Period > 100 || c.Epoch < 1 || c.Epoch > 100 {
		return impl.ErrRange
	}
	return impl.OK
}

// wantConfigFault: whoever is told such a setting tells its fault, and nothing else.
func wantConfigFault(t *testing.T, c impl.Config, code int64) {
	t.Helper()
	if got := impl.ConfigFault(c); got != code {
		t.Errorf("ConfigFault of %+v: %d, want %d", c, got, code)
	}
	if code == impl.OK {
		return
	}
	wantText(t, fmt.Sprintf("ConfigText of %+v", c), impl.ConfigText(c), code, "")
	for _, number := range []int64{-1, 0, 1, 100, topNumber, topNumber + 1} {
		wantCheckpoint(t, c, number, false)
	}
}

func wantCheckpoint(t *testing.T, c impl.Config, number int64, want bool) {
	t.Helper()
	if got := impl.IsCheckpoint(c, number); got != want {
		t.Errorf("IsCheckpoint of %+v and %d: %v, want %v", c, number, got, want)
	}
}

func TestP9Constants(t *testing.T) {
	// They are numbers without a type of their own: they fit to any.
	var turns int8 = impl.ModeTurns
	var commits uint64 = impl.ModeCommits
	c := impl.Config{Mode: impl.ModeCommits, Period: 3, Epoch: 30}
	if turns != 1 || commits != 2 || c != (impl.Config{Mode: 2, Period: 3, Epoch: 30}) {
		t.Error("a constant, or the setting, is another one")
	}
}

func TestP9ConfigFaultOfEachField(t *testing.T) {
	for mode, code := range map[int64]int64{
		math.MinInt64: impl.ErrRange, -1: impl.ErrRange, 0: impl.ErrRange, 1: impl.OK, 2: impl.OK, 3: impl.ErrRange, math.MaxInt64: impl.ErrRange,
	} {
		for _, span := range []int64{1, 50, 100} {
			wantConfigFault(t, impl.Config{Mode: mode, Period: span, Epoch: 101 - span}, code)
		}
	}
	for span, code := range map[int64]int64{
		math.MinInt64: impl.ErrRange, -1: impl.ErrRange, 0: impl.ErrRange, 1: impl.OK, 100: impl.OK, 101: impl.ErrRange, math.MaxInt64: impl.ErrRange,
	} {
		for _, mode := range []int64{impl.ModeTurns, impl.ModeCommits} {
			for _, other := range []int64{1, 50, 100} {
				wantConfigFault(t, impl.Config{Mode: mode, Period: span, Epoch: other}, code)
				wantConfigFault(t, impl.Config{Mode: mode, Period: other, Epoch: span}, code)
			}
		}
	}
	wantConfigFault(t, impl.Config{}, impl.ErrRange)
}

func TestP9ConfigFaultOfAllFields(t *testing.T) {
	for _, c := range eachConfig(configModes(), spans()) {
		wantConfigFault(t, c, configFaultAs(c))
	}
}

func TestP9ConfigTextKnown(t *testing.T) {
	for text, c := range map[string]impl.Config{
		"turns 1 1":       {Mode: 1, Period: 1, Epoch: 1},
		"turns 9 10":      {Mode: 1, Period: 9, Epoch: 10},
		"turns 10 9":      {Mode: 1, Period: 10, Epoch: 9},
		"turns 99 100":    {Mode: 1, Period: 99, Epoch: 100},
		"turns 100 99":    {Mode: 1, Period: 100, Epoch: 99},
		"turns 100 100":   {Mode: 1, Period: 100, Epoch: 100},
		"commits 1 1":     {Mode: 2, Period: 1, Epoch: 1},
		"commits 3 30":    {Mode: 2, Period: 3, Epoch: 30},
		"commits 9 10":    {Mode: 2, Period: 9, Epoch: 10},
		"commits 10 9":    {Mode: 2, Period: 10, Epoch: 9},
		"commits 99 100":  {Mode: 2, Period: 99, Epoch: 100},
		"commits 100 1":   {Mode: 2, Period: 100, Epoch: 1},
		"commits 100 100": {Mode: 2, Period: 100, Epoch: 100},
	} {
		wantText(t, "ConfigText", impl.ConfigText(c), impl.OK, text)
	}
}

// All settings without a fault: each has a text of its own.
func TestP9ConfigTextOfAll(t *testing.T) {
	texts := map[string]bool{}
	for mode, word := range map[int64]string{impl.ModeTurns: "turns", impl.ModeCommits: "commits"} {
		for period := int64(1); period <= 100; period++ {
			for epoch := int64(1); epoch <= 100; epoch++ {
				c := impl.Config{Mode: mode, Period: period, Epoch: epoch}
				wantText(t, "ConfigText", impl.ConfigText(c), impl.OK, fmt.Sprintf("%s %d %d", word, period, epoch))
				texts[impl.ConfigText(c).Text] = true
			}
		}
	}
	if len(texts) != 2*100*100 {
		t.Errorf("there are %d texts", len(texts))
	}
}

// quorums are those of 1 to 7, at the places of these numbers.
func quorums() []int {
	return []int{0, 1, 1, 1, 3, 3, 3, 5}
}

func TestP9QuorumOfEach(t *testing.T) {
	for n, quorum := range quorums() {
		if n > 0 {
			wantInt(t, fmt.Sprintf("QuorumOf %d", n), impl.QuorumOf(int64(n)), impl.OK, int64(quorum))
		}
	}
	for _, n := range []int64{math.MinInt64, math.MinInt64 + 1, -7, -1, 0, 8, 9, 10, 100, 257, 1<<32 + 4, math.MaxInt64 - 1, math.MaxInt64} {
		wantInt(t, fmt.Sprintf("QuorumOf %d", n), impl.QuorumOf(n), impl.ErrRange, 0)
	}
}

// As the promise says it: of those beside one there is a third, as far as it is whole; two of these, and the one.
func TestP9QuorumIsTwiceAThirdOfTheOthersAndOneMore(t *testing.T) {
	for n := int64(1); n <= impl.MaxSigners; n++ {
		third := int64(0)
		for others := n - 1; others >= 3; others -= 3 {
			third++
		}
		wantInt(t, fmt.Sprintf("QuorumOf %d", n), impl.QuorumOf(n), impl.OK, third+third+1)
	}
}

// epochNumbers are block numbers at the first and the last multiples of an Epoch, and beside them.
func epochNumbers(epoch int64) []int64 {
	last := int64(topNumber) / epoch * epoch
	list := []int64{math.MinInt64, -topNumber, -epoch - 1, -epoch, -epoch + 1, -1, 0, 1, math.MaxInt64, math.MaxInt64 / epoch * epoch}
	for _, multiple := range []int64{epoch, 2 * epoch, 7 * epoch, 100 * epoch, last - epoch, last, last + epoch, topNumber} {
		list = append(list, multiple-1, multiple, multiple+1)
	}
	return list
}

func TestP9IsCheckpointKnown(t *testing.T) {
	rows := []struct {
		epoch, number int64
		want          bool
	}{
		{1, -1, false}, {1, 0, true}, {1, 1, true}, {1, 2, true}, {1, topNumber - 1, true}, {1, topNumber, true}, {1, topNumber + 1, false},
		{2, -2, false}, {2, 0, true}, {2, 1, false}, {2, 2, true}, {2, topNumber, true}, {2, topNumber + 2, false},
		{5, 4, false}, {5, 5, true}, {5, 6, false}, {5, 10, true}, {7, 48, false}, {7, 49, true}, {7, 50, false},
		{100, -100, false}, {100, -1, false}, {100, 0, true}, {100, 1, false}, {100, 50, false}, {100, 99, false}, {100, 100, true}, {100, 101, false},
		{100, 1099511627700, true}, {100, topNumber, false}, {100, 1099511627800, false},
	}
	for _, row := range rows {
		for _, mode := range []int64{impl.ModeTurns, impl.ModeCommits} {
			for _, period := range []int64{1, 50, 100} {
				wantCheckpoint(t, impl.Config{Mode: mode, Period: period, Epoch: row.epoch}, row.number, row.want)
			}
		}
	}
}

func TestP9IsCheckpointAtMultiplesAlone(t *testing.T) {
	for epoch := int64(1); epoch <= 100; epoch++ {
		c := impl.Config{Mode: 1 + epoch%2, Period: 101 - epoch, Epoch: epoch}
		next := int64(0)
		for number := int64(0); number <= 1000; number++ {
			wantCheckpoint(t, c, number, number == next)
			if number == next {
				next += epoch
			}
		}
		for _, number := range epochNumbers(epoch) {
			wantCheckpoint(t, c, number, number >= 0 && number <= topNumber && number/epoch*epoch == number)
		}
	}
}

// A setting with a fault has no checkpoints, whatever the number is.
func TestP9IsCheckpointOfFaults(t *testing.T) {
	for _, c := range eachConfig(configModes(), spans()) {
		if configFaultAs(c) == impl.OK {
			continue
		}
		for _, number := range []int64{math.MinInt64, -1, 0, 1, 99, 100, 101, topNumber, math.MaxInt64} {
			wantCheckpoint(t, c, number, false)
		}
	}
}

func wantCommitsRight(t *testing.T, call string, signers [][]byte, h impl.Header, code int64) {
	t.Helper()
	if got := impl.CommitsRight(signers, h); got != code {
		t.Errorf("CommitsRight of %s: %d, want %d (%d signers, %d commits)", call, got, code, len(signers), len(h.Commits))
	}
}

// The commits were worked out apart from the program.
func TestP9CommitsRightKnown(t *testing.T) {
	h := withCommits(bareHeader(), [][]byte{unhex("00000001 44eb76f4"), unhex("00000002 ee9af8cd"), unhex("00000003 72d8663f")})
	four := [][]byte{addr(1), addr(2), addr(3), addr(4)}
	wantCommitsRight(t, "three of three", four[:3], h, impl.OK)
	wantCommitsRight(t, "three of four", four, h, impl.OK)
	wantCommitsRight(t, "three of seven", append(slices.Clone(four), addr(5), addr(6), addr(7)), h, impl.ErrRule)
	wantCommitsRight(t, "three, one of whom is a stranger", four[1:], h, impl.ErrRule)
	wantCommitsRight(t, "nobody", nil, h, impl.ErrNone)
	two := withCommits(h, h.Commits[:2])
	wantCommitsRight(t, "two of four", four, two, impl.ErrRule)
	wantCommitsRight(t, "two of three", four[:3], two, impl.OK)
	wantCommitsRight(t, "a commit of another address", four[:3], withCommits(h, [][]byte{unhex("00000001 ee9af8cd")}), impl.ErrSign)
	wantCommitsRight(t, "two of one", four[:3], withCommits(h, [][]byte{h.Commits[0], h.Commits[0]}), impl.ErrTaken)
}

// As many as the quorum, one fewer, all of them, and what is between.
func TestP9CommitsRightOfCounts(t *testing.T) {
	for _, h := range append(goodHeaders(), signedHeaders()...) {
		for n := 1; n <= 7; n++ {
			signers := risingAddrs(n)
			for count := range n + 1 {
				code := int64(impl.OK)
				if count < quorums()[n] {
					code = impl.ErrRule
				}
				wantCommitsRight(t, "the first ones", signers, committedAs(h, signers[:count]), code)
				wantCommitsRight(t, "the last ones", signers, committedAs(h, signers[n-count:]), code)
				wantCommitsRight(t, "what CommitHeader gave", signers, impl.CommitHeader(h, signers[:count]).Header, code)
			}
		}
	}
}

// Whoever of the signers they are, how many is all that counts.
func TestP9CommitsRightOfEachChoice(t *testing.T) {
	h := signedAs(someHeader())
	for n := 1; n <= 7; n++ {
		signers := risingAddrs(n)
		for which := range 1 << n {
			some := chosen(signers, which)
			code := int64(impl.OK)
			if len(some) < quorums()[n] {
				code = impl.ErrRule
			}
			wantCommitsRight(t, "some of the signers", signers, committedAs(h, some), code)
		}
	}
}

func TestP9CommitsRightOfNoCommits(t *testing.T) {
	for _, h := range append(goodHeaders(), signedHeaders()...) {
		for n := 1; n <= 7; n++ {
			for _, none := range [][][]byte{nil, {}} {
				bare := cloneHeader(h)
				bare.Commits = none
				wantCommitsRight(t, "no commits", risingAddrs(n), bare, impl.ErrRule)
			}
		}
	}
}

// Commits need not rise, as signers have to.
func TestP9CommitsRightInWhateverOrder(t *testing.T) {
	for _, h := range signedHeaders() {
		for n := 2; n <= 7; n++ {
			list := risingAddrs(n)
			for range n {
				list = append(list[1:], list[0])
				wantCommitsRight(t, "commits that are turned", risingAddrs(n), withCommits(h, commitsAs(h, list)), impl.OK)
			}
			slices.Reverse(list)
			wantCommitsRight(t, "commits that fall", risingAddrs(n), withCommits(h, commitsAs(h, list)), impl.OK)
		}
	}
}

// What a header says of signers, and whether its seal is right, is not asked here.
func TestP9CommitsRightAsksTheCommitsAlone(t *testing.T) {
	signers := risingAddrs(4)
	for _, h := range append(manyHeaders(60), bareHeader()) {
		wantCommitsRight(t, "some header", signers, committedAs(h, signers[1:]), impl.OK)
		h.Signers, h.Signer, h.Seal = [][]byte{outsider(0)}, outsider(1), nil
		wantCommitsRight(t, "one of others", signers, committedAs(h, signers[1:]), impl.OK)
		h.Signers, h.Signer, h.Seal = signers, signers[0], []byte{1, 2, 3, 4}
		wantCommitsRight(t, "others than those of the header", [][]byte{outsider(0)}, committedAs(h, signers), impl.ErrRule)
	}
}

func TestP9CommitsRightOfNoSigners(t *testing.T) {
	for _, good := range append(goodHeaders(), signedHeaders()...) {
		one := commitsAs(good, risingAddrs(1))[0]
		for _, none := range [][][]byte{nil, {}} {
			wantCommitsRight(t, "no signers", none, committedAs(good, risingAddrs(7)), impl.ErrNone)
			wantCommitsRight(t, "no signers and no commits", none, committedAs(good, nil), impl.ErrNone)
			wantCommitsRight(t, "no signers and a wrong commit", none, withCommits(good, [][]byte{flipped(one, 63)}), impl.ErrNone)
			wantCommitsRight(t, "no signers and two of one", none, withCommits(good, [][]byte{one, one}), impl.ErrNone)
			for _, row := range headerFaultChanges() {
				wantCommitsRight(t, "no signers and a fault", none, withChange(good, row.change), impl.ErrNone)
			}
		}
	}
}

func TestP9CommitsRightOfSignersFaults(t *testing.T) {
	for _, good := range append(goodHeaders(), signedHeaders()...) {
		one := commitsAs(good, risingAddrs(1))[0]
		for _, row := range faultyLists() {
			wantCommitsRight(t, "signers with a fault", row.list, committedAs(good, risingAddrs(7)), row.code)
			wantCommitsRight(t, "signers with a fault, no commits", row.list, committedAs(good, nil), row.code)
			wantCommitsRight(t, "signers with a fault, a wrong commit", row.list, withCommits(good, [][]byte{flipped(one, 63)}), row.code)
			wantCommitsRight(t, "signers with a fault, two of one", row.list, withCommits(good, [][]byte{one, one}), row.code)
			// The signers are asked first, whatever the header is.
			for _, other := range headerFaultChanges() {
				wantCommitsRight(t, "signers and a header with faults", row.list, withChange(good, other.change), row.code)
			}
		}
	}
}

func TestP9CommitsRightOfHeaderFaults(t *testing.T) {
	for _, good := range append(goodHeaders(), signedHeaders()...) {
		one := commitsAs(good, risingAddrs(1))[0]
		stranger := commitsAs(good, [][]byte{outsider(0)})[0]
		// Enough, none, wrong, two of one, a stranger: the fault of the header comes ahead of what its commits are.
		for _, commits := range [][][]byte{commitsAs(good, risingAddrs(4)), nil, {flipped(one, 63)}, {one, one}, {stranger}} {
			for _, row := range headerFaultChanges() {
				h := withChange(withCommits(good, commits), row.change)
				for _, n := range []int{1, 4, 7} {
					wantCommitsRight(t, "a header with a fault", risingAddrs(n), h, row.code)
				}
			}
		}
	}
	for n := 1; n <= 7; n++ {
		wantCommitsRight(t, "no header", risingAddrs(n), impl.Header{}, impl.ErrForm)
	}
}

func TestP9CommitsRightOfWrongCommits(t *testing.T) {
	for _, h := range []impl.Header{bareHeader(), signedAs(fullHeader())} {
		for n := 1; n <= 7; n++ {
			signers := risingAddrs(n)
			for place := range n {
				for bit := 0; bit < 64; bit += 7 {
					commits := commitsAs(h, signers)
					commits[place] = flipped(commits[place], bit)
					wantCommitsRight(t, "a commit with a bit changed, among all", signers, withCommits(h, commits), impl.ErrSign)
					wantCommitsRight(t, "that commit alone", signers, withCommits(h, commits[place:place+1]), impl.ErrSign)
				}
			}
			other := withChange(h, func(h *impl.Header) { h.Time = 12345 })
			wantCommitsRight(t, "commits to another header", signers, withCommits(h, commitsAs(other, signers)), impl.ErrSign)
		}
	}
}

func TestP9CommitsRightOfTwoOfOne(t *testing.T) {
	for _, h := range signedHeaders() {
		eachTwoOfOne(h, func(commits [][]byte, first int, second int) {
			wantCommitsRight(t, "two of one", risingAddrs(7), withCommits(h, commits), impl.ErrTaken)
			// Too few, and strangers: that two are of one comes ahead of both.
			wantCommitsRight(t, "two of one among strangers", [][]byte{outsider(0)}, withCommits(h, commits), impl.ErrTaken)
		})
		for n := 1; n <= 7; n++ {
			all := slices.Repeat(commitsAs(h, risingAddrs(1)), 7)
			wantCommitsRight(t, "all of one", risingAddrs(n), withCommits(h, all), impl.ErrTaken)
		}
	}
}

// A stranger is one too many, be the others enough or not, and wherever its commit stands.
func TestP9CommitsRightOfStrangers(t *testing.T) {
	strangers := [][]byte{addr(0), addr(2), outsider(0), {1, 0, 0, 0}, {255, 255, 255, 255}}
	for _, h := range []impl.Header{bareHeader(), signedAs(someHeader())} {
		for n := 1; n <= 7; n++ {
			signers := risingAddrs(n)
			for _, stranger := range strangers {
				wantCommitsRight(t, "a stranger alone", signers, withCommits(h, commitsAs(h, [][]byte{stranger})), impl.ErrRule)
				for _, count := range []int{min(n, 6), quorums()[n] - 1, quorums()[n]} {
					for _, place := range []int{0, count / 2, count} {
						list := slices.Insert(cloneLists(signers[:count]), place, stranger)
						wantCommitsRight(t, "a stranger among others", signers, withCommits(h, commitsAs(h, list)), impl.ErrRule)
					}
				}
			}
			// Each of the signers is a stranger to the others.
			for at := range n {
				others := slices.Delete(risingAddrs(n), at, at+1)
				if len(others) > 0 {
					wantCommitsRight(t, "one that is no signer any more", others, committedAs(h, signers), impl.ErrRule)
				}
			}
		}
	}
}

// Two faults at once: what is not borne comes ahead of two of one, and both ahead of who and how many they are.
func TestP9CommitsRightTheFirstCode(t *testing.T) {
	for _, h := range append(goodHeaders(), signedHeaders()...) {
		for n := 1; n <= 7; n++ {
			signers := risingAddrs(n)
			one := commitsAs(h, signers[:1])[0]
			wrong, stranger := flipped(one, 63), commitsAs(h, [][]byte{outsider(0)})[0]
			rows := []struct {
				code    int64
				commits [][]byte
			}{
				{impl.ErrSign, [][]byte{one, one, wrong}},
				{impl.ErrSign, [][]byte{wrong, one, one}},
				{impl.ErrSign, [][]byte{wrong, wrong}},
				{impl.ErrSign, [][]byte{stranger, wrong}},
				{impl.ErrSign, [][]byte{wrong, stranger}},
				{impl.ErrSign, [][]byte{flipped(stranger, 63)}},
				{impl.ErrSign, [][]byte{stranger, one, one, wrong}},
				{impl.ErrTaken, [][]byte{stranger, stranger}},
				{impl.ErrTaken, [][]byte{stranger, one, one}},
				{impl.ErrTaken, [][]byte{one, stranger, one}},
				{impl.ErrRule, [][]byte{stranger}},
				{impl.ErrRule, [][]byte{one, stranger}},
				{impl.ErrRule, [][]byte{stranger, one}},
			}
			for _, row := range rows {
				wantCommitsRight(t, "two faults at once", signers, withCommits(h, row.commits), row.code)
			}
		}
	}
}

// commitsRightAs is what the chapter says of commits; the faults of signers and headers, which other tests hold, are the program's.
func commitsRightAs(signers [][]byte, h impl.Header) int64 {
	if len(signers) == 0 {
		return impl.ErrNone
	}
	if code := impl.SignersFault(signers); code != impl.OK {
		return code
	}
	if code := impl.HeaderFault(h); code != impl.OK {
		return code
	}
	seen, twice, strange := map[string]bool{}, false, false
	hash := hashAs(h, h.Seal)
	for _, commit := range h.Commits {
		if string(commit) != string(commitAs(commit[:4], hash)) {
			return impl.ErrSign
		}
		twice = twice || seen[string(commit)]
		strange = strange || !holds(signers, commit[:4])
		seen[string(commit)] = true
	}
	switch {
	case twice:
		return impl.ErrTaken
	case strange || len(h.Commits) < quorums()[len(signers)]:
		return impl.ErrRule
	}
	return impl.OK
}

// Long runs of lists and commits that are mostly right: what is told is what the chapter says.
func TestP9CommitsRightAsTold(t *testing.T) {
	r := rand.New(rand.NewPCG(81, 82))
	headers := append(manyHeaders(10), signedHeaders()...)
	told := map[int64]int{}
	for range 3000 {
		h := headers[r.IntN(len(headers))]
		people := append(risingAddrs(7), outsider(0))
		signers := chosen(people[:7], 1+r.IntN(127))
		who := chosen(people, r.IntN(256)&r.IntN(256))
		if r.IntN(2) == 0 {
			who = cloneLists(signers[r.IntN(len(signers)):])
		}
		r.Shuffle(len(who), func(i, j int) { who[i], who[j] = who[j], who[i] })
		commits := commitsAs(h, who)
		if len(commits) > 0 && r.IntN(8) == 0 {
			commits[r.IntN(len(commits))] = commits[0]
		}
		if len(commits) > 0 && r.IntN(8) == 0 {
			at := r.IntN(len(commits))
			commits[at] = flipped(commits[at], r.IntN(64))
		}
		if r.IntN(10) == 0 {
			signers = slices.Repeat(signers, 2)
		}
		committed := withCommits(h, commits)
		code := commitsRightAs(signers, committed)
		told[code]++
		wantCommitsRight(t, "some lists", signers, committed, code)
	}
	for _, code := range []int64{impl.OK, impl.ErrMany, impl.ErrForm, impl.ErrSign, impl.ErrTaken, impl.ErrRule} {
		if told[code] < 20 {
			t.Errorf("the code %d was told %d times", code, told[code])
		}
	}
}
