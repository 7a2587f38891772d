package tests

import (
	"fmt"
	"reflect"
	"slices"
	"strings"
	"testing"
	"unsafe"

	"loop.example/g00383/impl"
)

// scriptLines are of every kind that chapter 16 tells apart, for a client, whatever it is.
func scriptLines(c impl.Client) []string {
	lines := []string{
		"", " ", "\n", "show", "show\n", " show ", "show 0", "Show", "snap", "snap 0", "snap 1", "snap 5", "snap 9999", "snap 00", "evict 0", "evict 4", "evict 9999", "evict -1",
		"next 0 0 0 0", "next 0 1 9 1", "next 1 0 255 0", "next 4 1 0 0", "next 5 9 0 0", "next 0 0 256 0", "next 0 0 0 2", "next 9999 9999 9999 9999", "next 0 0 0", "next 0 0 0 0 0", "next 99999 0 0 0",
		"submit", "submit 00", "submit 0", "submit zz", "submit c0", "submit " + strings.Repeat("00", 1200), "submit " + strings.Repeat("00", 1201), submitLine(stray(1)), submitLine(stray(99)),
		"wink", "\t", "\x00", "\xff\xfe", "\u00a0", strings.Repeat("x", 1<<16), strings.Repeat(" ", 1<<16), strings.Repeat("9", 1<<12), "next " + strings.Repeat("9 ", 1<<12), strings.Repeat("\n", 1<<12),
	}
	for _, h := range c.Orphans[:min(1, len(c.Orphans))] {
		lines = append(lines, submitLine(h))
	}
	for _, e := range c.Store.Entries[:min(2, len(c.Store.Entries))] {
		lines = append(lines, submitLine(e.Header), submitLine(strayBehind(e, 9)))
	}
	return lines
}

// scriptTexts are a few of these lines together, and too many of them.
func scriptTexts(c impl.Client) []string {
	lines := scriptLines(c)
	short := slices.DeleteFunc(slices.Clone(lines), func(line string) bool { return len(line) > 150 })
	texts := []string{"", "\n", strings.Join(short[:15], "\n"), strings.Join(short[15:24], "\n") + "\n", strings.Join(short[:17], "\n"), strings.Repeat("show\n", 17), strings.Repeat(" ", 3000), strings.Repeat(" ", 3001)}
	return append(texts, lines[len(lines)-1]+"\nshow", "snap 0\n"+lines[len(lines)-2], "wink\nnext 0 0 3 1\nnext 0 0 256 0\nsnap 0\nnext 0 1 3 1\nevict 0\nshow")
}

type scriptAnswers struct {
	Text  impl.TextResult
	Steps []impl.ScriptResult
	Runs  []impl.ScriptResult
}

// askScript tells a client lines and texts.
func askScript(c impl.Client, lines []string, texts []string) scriptAnswers {
	all := scriptAnswers{Text: impl.ClientText(c)}
	for _, line := range lines {
		all.Steps = append(all.Steps, impl.StepScript(c, line))
	}
	for _, text := range texts {
		all.Runs = append(all.Runs, impl.RunScript(c, text))
	}
	return all
}

func askOneScript(c impl.Client) scriptAnswers {
	return askScript(c, scriptLines(c), scriptTexts(c))
}

// sameScriptAnswers holds them against each other; nil and empty are the same.
func sameScriptAnswers(a scriptAnswers, b scriptAnswers) bool {
	return a.Text == b.Text && slices.EqualFunc(a.Steps, b.Steps, sameScript) && slices.EqualFunc(a.Runs, b.Runs, sameScript)
}

// wantScriptOr: a client without a fault, or nothing beside one of the codes.
func wantScriptOr(t *testing.T, call string, at int, r impl.ScriptResult, codes ...int64) {
	t.Helper()
	nothing := impl.ScriptResult{Code: r.Code}
	if r.Code == impl.OK && impl.ClientFault(r.Client) != impl.OK || r.Code != impl.OK && (!slices.Contains(codes, r.Code) || !reflect.DeepEqual(r, nothing)) {
		t.Errorf("%s at %d: %+v", call, at, r)
	}
}

func TestP1ScriptsAnswerAtEveryArgument(t *testing.T) {
	faults, stepped := map[int64]bool{}, map[int64]bool{}
	for i, c := range clientArguments(t) {
		all := askOneScript(c)
		fault := clientFaultAs(c)
		faults[fault] = true
		if all.Text.Code != fault || (all.Text.Text == "") != (fault != impl.OK) {
			t.Errorf("ClientText at %d: %+v, want the code %d", i, all.Text, fault)
		}
		only := func(codes ...int64) []int64 {
			if fault != impl.OK {
				return []int64{fault}
			}
			return codes
		}
		for _, r := range all.Steps {
			wantScriptOr(t, "StepScript", i, r, only(impl.ErrForm, impl.ErrRange, impl.ErrNone, impl.ErrText, impl.ErrTaken, impl.ErrSign, impl.ErrRule, impl.ErrFull)...)
			if fault == impl.OK {
				stepped[r.Code] = true
			}
		}
		for _, r := range all.Runs {
			wantScriptOr(t, "RunScript", i, r, only(impl.ErrMany)...)
			if r.Said != "" && !strings.HasSuffix(r.Said, "\n") {
				t.Errorf("RunScript at %d says %q", i, r.Said)
			}
		}
		if fault != impl.OK && (slices.ContainsFunc(all.Steps, func(r impl.ScriptResult) bool { return r.Code != fault }) || slices.ContainsFunc(all.Runs, func(r impl.ScriptResult) bool { return r.Code != fault })) {
			t.Errorf("the client at %d has the fault %d, and is answered otherwise", i, fault)
		}
	}
	for _, code := range []int64{impl.OK, impl.ErrForm, impl.ErrMany, impl.ErrRange, impl.ErrTaken, impl.ErrSign, impl.ErrState} {
		if !faults[code] {
			t.Errorf("the code %d is never told of a client", code)
		}
	}
	for _, code := range []int64{impl.OK, impl.ErrRange, impl.ErrNone, impl.ErrText, impl.ErrTaken, impl.ErrRule, impl.ErrFull} {
		if !stepped[code] {
			t.Errorf("the code %d is never told of a line", code)
		}
	}
}

func TestP1TextsAnswerAtEveryArgument(t *testing.T) {
	told := map[int64]bool{}
	for i, x := range snapArguments() {
		got := impl.SnapText(x)
		told[got.Code] = true
		if got.Code != snapFaultAs(x) || (got.Text == "") != (got.Code != impl.OK) {
			t.Errorf("SnapText at %d: code %d and %q", i, got.Code, got.Text)
		}
	}
	for _, code := range []int64{impl.OK, impl.ErrForm, impl.ErrMany, impl.ErrRange, impl.ErrNone, impl.ErrRule} {
		if !told[code] {
			t.Errorf("the code %d is never told of a snapshot", code)
		}
	}
	for _, line := range wordArguments() {
		wantWords(t, line, wordsAs(line)...)
	}
}

// wordArguments are texts of every kind, lines or not.
func wordArguments() []string {
	texts := append(textArguments(), wrongNumerals()...)
	for _, line := range append(scriptLines(knownClient(1)), scriptTexts(knownClient(2))...) {
		if len(line) < 1<<14 {
			texts = append(texts, line)
		}
	}
	return slices.DeleteFunc(texts, func(text string) bool { return len(text) > 1<<16 })
}

func TestP1ScriptsHangOnTheArgumentsAlone(t *testing.T) {
	for i, c := range fewClients(t, 6) {
		first := askOneScript(c)
		if !reflect.DeepEqual(first, askOneScript(c)) {
			t.Errorf("the client at %d is answered otherwise another time", i)
		}
		for call, other := range map[string]impl.Client{"in other memory": cloneClient(c), "with room behind it": roomyClient(c), "with what is empty, not nil": emptiedClient(c)} {
			if !sameScriptAnswers(first, askScript(other, scriptLines(c), scriptTexts(c))) {
				t.Errorf("the client at %d is answered otherwise %s", i, call)
			}
		}
		var lines []string
		for _, line := range scriptLines(c) {
			// The same line, in the midst of a longer one.
			lines = append(lines, ("show 0\n" + line + " 0\n")[7:7+len(line)])
		}
		if !sameScriptAnswers(first, askScript(c, lines, scriptTexts(c))) {
			t.Errorf("the answers at %d hang on what is behind a line", i)
		}
	}
	for i, x := range smallSnaps() {
		got := impl.SnapText(x)
		if got != impl.SnapText(x) || got != impl.SnapText(cloneSnap(x)) || got != impl.SnapText(roomySnap(x)) {
			t.Errorf("the snapshot at %d is answered otherwise another time", i)
		}
	}
	for _, line := range wordArguments() {
		if !reflect.DeepEqual(impl.WordsOf(line), impl.WordsOf(strings.Clone(line))) {
			t.Errorf("WordsOf %.80q is another one", line)
		}
	}
}

// Asked in other company each is answered the same: nothing is kept but in the client that is told.
func TestP1ScriptsAnswerTheSameBehindOthers(t *testing.T) {
	c := knownClient(impl.ModeTurns)
	text := "next 0 0 3 1\nsnap 1\nwink\nevict 0\n" + submitLine(stray(7)) + "\nshow"
	line, snap := stepAs(c, "next 0 0 3 1"), snapTextAs(someSnap())
	whole := runAs(c, text)
	for i, other := range fewClients(t, 5) {
		askOneScript(other)
		if i%4 > 0 {
			continue
		}
		wantScript(t, "StepScript behind another one", impl.StepScript(c, "next 0 0 3 1"), line)
		wantScript(t, "RunScript behind another one", impl.RunScript(c, text), whole)
		wantText(t, "ClientText behind another one", impl.ClientText(c), impl.OK, clientTextAs(c))
		wantText(t, "SnapText behind another one", impl.SnapText(someSnap()), impl.OK, snap)
		wantWords(t, " a  b ", "a", "b")
	}
	// What one script has done no other one finds.
	for range 3 {
		wantRun(t, c, "next 0 0 3 1", "joined 1\n")
		wantRun(t, c, submitLine(stray(7)), "joined 0\n")
		wantRun(t, c, "evict 2", "! 3\n")
	}
}

func TestP1ScriptsAnswerSideBySide(t *testing.T) {
	wantSideBySide(t, 8, func(i int) func() bool {
		c := clientOf(knownStore(modes()[i%2]), strays(i%6), int64(i%6))
		x := withSnap(someSnap(), func(x *impl.Snap) { x.Number += int64(i) })
		line := nextLine(0, i%2, i+1, 1)
		text := fmt.Sprintf("%s\nsnap %d\nwink\nevict 0\nshow", line, i%6)
		step, run, shown, said := stepAs(c, line), runAs(c, text), clientTextAs(c), snapTextAs(x)
		words := slices.Repeat([]string{fmt.Sprint(i), "x"}, i)
		return func() bool {
			same := sameScript(impl.StepScript(c, line), step) && sameScript(impl.RunScript(c, text), run)
			same = same && impl.ClientText(c).Text == shown && impl.SnapText(x).Text == said
			return same && slices.Equal(impl.WordsOf(strings.Join(words, "  ")).Words, words)
		}
	})
}

// Neither the client nor the snapshot is changed, nor what is behind them.
func TestP1ScriptsChangeNoArgument(t *testing.T) {
	for i, c := range fewClients(t, 4) {
		shown, lines, texts := roomyClient(c), scriptLines(c), scriptTexts(c)
		before := wholeClient(shown)
		askScript(shown, lines, texts)
		if !reflect.DeepEqual(wholeClient(shown), before) {
			t.Errorf("the client at %d, or what is behind it, was changed", i)
		}
	}
	for i, x := range smallSnaps() {
		shown := roomySnap(x)
		before := wholeSnap(shown)
		impl.SnapText(shown)
		if !reflect.DeepEqual(wholeSnap(shown), before) {
			t.Errorf("the snapshot at %d, or what is behind it, was changed", i)
		}
	}
}

// apartScripts are lines and texts that do each thing that may be done to a client.
func (a apartClient) apartScripts() []string {
	texts := []string{"", " ", "show", "snap 0", "evict 0", "next 0 0 0 0", "next 0 1 9 1", submitLine(a.header)}
	return append(texts, "wink", "\n\n", "show\nwink\nshow", "snap 0\nnext 0 1 9 1\nnext 0 0 0 0\nevict 0\n", submitLine(a.header)+"\nsnap 1\nwink\nshow\n")
}

// scriptCalls are all calls with a client and a text whose answer has a client, and what each is to answer.
func scriptCalls(c impl.Client, text string) map[string]struct {
	ask  func(c impl.Client) impl.ScriptResult
	want impl.ScriptResult
} {
	type row = struct {
		ask  func(c impl.Client) impl.ScriptResult
		want impl.ScriptResult
	}
	rows := map[string]row{"RunScript": {func(c impl.Client) impl.ScriptResult { return impl.RunScript(c, text) }, runAs(c, text)}}
	if step := stepAs(c, text); step.Code == impl.OK {
		rows["StepScript"] = row{func(c impl.Client) impl.ScriptResult { return impl.StepScript(c, text) }, step}
	}
	return rows
}

func TestP1ScriptsShareNoMemory(t *testing.T) {
	for i, a := range apartClients(t) {
		roomy := roomyClient(a.client)
		before := wholeClient(roomy)
		for _, text := range a.apartScripts() {
			for call, row := range scriptCalls(a.client, text) {
				ask := func() impl.ClientSnap {
					r := row.ask(roomy)
					if r.Said != row.want.Said {
						t.Errorf("%s of %.40q: %q, want %q", call, text, r.Said, row.want.Said)
					}
					return impl.ClientSnap{Code: r.Code, Client: r.Client}
				}
				wantClientsApart(t, call, ask, impl.ClientSnap{Code: row.want.Code, Client: row.want.Client})
			}
		}
		if !reflect.DeepEqual(wholeClient(roomy), before) {
			t.Errorf("the client at %d is changed with an answer", i)
		}
	}
}

func TestP1ScriptsAnswersDoNotFollowTheirArguments(t *testing.T) {
	for _, a := range apartClients(t) {
		for _, text := range a.apartScripts() {
			for call, row := range scriptCalls(a.client, text) {
				c := cloneClient(a.client)
				got := row.ask(c)
				spoilClient(c)
				wantScript(t, call+", its argument changed since", got, row.want)
			}
		}
		c := cloneClient(a.client)
		shown := impl.ClientText(c)
		spoilClient(c)
		wantText(t, "ClientText, its argument changed since", shown, impl.OK, clientTextAs(a.client))
	}
	for _, x := range goodSnaps() {
		spoilt := cloneSnap(x)
		said := impl.SnapText(spoilt)
		spoilSnap(spoilt)
		wantText(t, "SnapText, its argument changed since", said, impl.OK, snapTextAs(x))
	}
}

// lentText is a text in memory that is changed later.
func lentText(text string) (string, []byte) {
	if text == "" {
		return "", nil
	}
	memory := []byte(text)
	return unsafe.String(&memory[0], len(memory)), memory
}

// The memory of a text is changed: neither the words of it nor what was said of it are.
func TestP1ScriptsKeepNoText(t *testing.T) {
	for _, line := range wordArguments() {
		want := wordsAs(line)
		lent, memory := lentText(line)
		got := impl.WordsOf(lent)
		spoil(memory, 'q')
		if !slices.Equal(got.Words, want) {
			t.Errorf("WordsOf %.80q, its argument changed since: %.80q", line, got.Words)
		}
	}
	c := knownClient(impl.ModeCommits)
	for _, text := range append(scriptLines(c), scriptTexts(c)...) {
		lent, memory := lentText(text)
		step, run := impl.StepScript(c, lent), impl.RunScript(c, lent)
		spoil(memory, 'q')
		wantScript(t, "StepScript, its text changed since", step, stepAs(c, text))
		wantScript(t, "RunScript, its text changed since", run, runAs(c, text))
	}
}

func TestP1WordsShareNoMemory(t *testing.T) {
	for _, line := range []string{"a", "a b", " next 0 1  3 1 ", strings.Repeat("ab ", 100)} {
		want := wordsAs(line)
		one, two := impl.WordsOf(line), impl.WordsOf(line)
		_ = append(one.Words, "more", "and more")
		spoil(one.Words, "spoilt")
		if !slices.Equal(two.Words, want) {
			t.Errorf("WordsOf %.80q is changed with another answer", line)
		}
		wantWords(t, line, want...)
	}
}

// A client that shares all the memory that it can: what is done to it comes apart.
func TestP1ScriptsOfOneMemoryComeApart(t *testing.T) {
	for _, mode := range modes() {
		w := entwinedHolding(t, mode)
		lone := w.store.Entries[1].Header
		lone.Parent = w.store.Entries[2].Header.Receipts
		c := impl.Client{Store: w.store, Cache: w.cache, Orphans: []impl.Header{lone}}
		plain := cloneClient(c)
		wantClientCode(t, "a client of one memory", c, impl.OK)
		for _, text := range []string{"", "show", "snap 1", "evict 2", "next 0 0 9 1", "next 1 2 0 0", "next 1 2 0 0\nnext 4 0 7 1\nsnap 5\nwink\nshow"} {
			for call, row := range scriptCalls(plain, text) {
				ask := func() impl.ClientSnap {
					r := row.ask(c)
					return impl.ClientSnap{Code: r.Code, Client: r.Client}
				}
				wantClientsApart(t, call+" of one memory", ask, impl.ClientSnap{Code: row.want.Code, Client: row.want.Client})
			}
		}
		if !equalClients(c, plain) {
			t.Error("an argument that shares memory is changed with an answer")
		}
	}
}
