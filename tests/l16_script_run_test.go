package tests

import (
	"fmt"
	"math/rand/v2"
	"strings"
	"testing"

	"loop.example/g00383/impl"
)

// linesAs are those of a text: what a line feed ends, and what is behind the last one, if it is not empty.
func linesAs(text string) []string {
	lines := strings.Split(text, "\n")
	if lines[len(lines)-1] == "" {
		return lines[:len(lines)-1]
	}
	return lines
}

// saidAs is what is said of a line in a script.
func saidAs(r impl.ScriptResult) string {
	switch {
	case r.Code != impl.OK:
		return fmt.Sprintf("! %d\n", r.Code)
	case r.Said == "" || r.Said[len(r.Said)-1] == '\n':
		return r.Said
	}
	return r.Said + "\n"
}

// runAs is what the chapter says of a script.
func runAs(c impl.Client, text string) impl.ScriptResult {
	if code := clientFaultAs(c); code != impl.OK {
		return impl.ScriptResult{Code: code}
	}
	if len(text) > 3000 || len(linesAs(text)) > 16 {
		return impl.ScriptResult{Code: impl.ErrMany}
	}
	said := ""
	for _, line := range linesAs(text) {
		done := stepAs(c, line)
		said += saidAs(done)
		if done.Code == impl.OK {
			c = done.Client
		}
	}
	return impl.ScriptResult{Client: cloneClient(c), Said: said}
}

// wantRun: what RunScript tells is what the chapter says, and that is said; the client that comes of it is told.
func wantRun(t *testing.T, c impl.Client, text string, said string) impl.Client {
	t.Helper()
	want := runAs(c, text)
	if want.Code != impl.OK || want.Said != said {
		t.Fatalf("%.300q: by the chapter it is %d and %q, the test wants %q", text, want.Code, want.Said, said)
	}
	got := impl.RunScript(c, text)
	wantScript(t, fmt.Sprintf("RunScript of %.300q", text), got, want)
	if fault := impl.ClientFault(got.Client); fault != impl.OK {
		t.Errorf("RunScript of %.300q: the client has the fault %d", text, fault)
	}
	return got.Client
}

func wantTooMany(t *testing.T, c impl.Client, text string) {
	t.Helper()
	if len(text) <= 3000 && len(linesAs(text)) <= 16 {
		t.Fatalf("it is not too many: %d bytes, %d lines", len(text), len(linesAs(text)))
	}
	wantScript(t, fmt.Sprintf("RunScript of too many, %d bytes", len(text)), impl.RunScript(c, text), impl.ScriptResult{Code: impl.ErrMany})
}

// wantCut: behind each line feed, the second part on what the first one left does and says what the whole one does.
func wantCut(t *testing.T, c impl.Client, text string) {
	t.Helper()
	whole := impl.RunScript(c, text)
	if whole.Code != impl.OK {
		t.Fatalf("%.300q has the code %d", text, whole.Code)
	}
	for at := range text {
		if text[at] != '\n' {
			continue
		}
		ahead := impl.RunScript(c, text[:at+1])
		behind := impl.RunScript(ahead.Client, text[at+1:])
		if ahead.Code != impl.OK {
			t.Fatalf("%.300q has the code %d", text[:at+1], ahead.Code)
		}
		wantScript(t, fmt.Sprintf("%.300q, cut at %d", text, at), impl.ScriptResult{Code: behind.Code, Client: behind.Client, Said: ahead.Said + behind.Said}, whole)
	}
}

// Written out, line by line.
func TestP17RunScript(t *testing.T) {
	s := knownStore(impl.ModeTurns)
	c := beginningOf(s, 2)
	lines := []struct{ line, said string }{
		{"next 0 1 9 1", "joined 1\n"},
		{"", ""},
		{"snap 1", "snap 1 of 00000001 00000002 00000003 recents 1 00000002 votes 00000002 +00000009\n"},
		{"next 1 1 0 0", "! 8\n"},
		{"   ", ""},
		{submitLine(s.Entries[4].Header), "joined 0\n"},
		{submitLine(s.Entries[4].Header), "! 6\n"},
		{"show", "entry 0 0 abc99c81 -1 1\nentry 1 1 72e617e1 0 3\nhead 1 kept 2 orphans 1\n"},
		{" next 1 0  2 0 ", "joined 2\n"},
		{"evict 2", "! 3\n"},
		{"evict 1", "ok\n"},
		{"Show", "! 5\n"},
		{"snap 4", "! 4\n"},
		{"show", "entry 0 0 abc99c81 -1 1\nentry 1 1 72e617e1 0 3\nentry 2 2 5af96b70 1 4\nentry 3 3 6254269e 2 5\nhead 3 kept 1 orphans 0\n"},
		{"submit 00", "! 5\n"},
		{"snap 3", "snap 3 of 00000001 00000002 00000003 recents 2 00000001 3 00000003 votes\n"},
	}
	text, said := "", ""
	for _, row := range lines {
		text, said = text+row.line+"\n", said+row.said
		wantRun(t, c, text, said)
		wantRun(t, c, strings.TrimSuffix(text, "\n"), said)
	}
	wantCut(t, c, text)
	then := wantRun(t, c, text, said)
	wantAll(t, "a whole script", then, picked(headersOf(s), 0, 1, 2, 4), nil, 1, 3)
	wantTooMany(t, c, text+"\n")
	wantTooMany(t, c, text+"show")
}

// No text, and such as nothing is done by: nothing changes, and nothing is said.
func TestP17RunScriptOfNothing(t *testing.T) {
	for _, mode := range modes() {
		s := strayedStore(mode)
		for _, c := range append(askedClients(s), beginningOf(s, 0), clientOf(fullOf(s), strays(6), 2, 0)) {
			for _, text := range []string{"", "\n", "\n\n", " ", " \n", "\n ", "  \n\n   \n", strings.Repeat("\n", 16), strings.Repeat(" \n", 16), blanks(3000)} {
				if then := wantRun(t, c, text, ""); !equalClients(then, c) {
					t.Errorf("the client is another one behind %q", text)
				}
			}
		}
	}
}

// 3,000 bytes and 3,001, of one line or of some; counted as bytes, whatever they stand for.
func TestP17RunScriptOfBytes(t *testing.T) {
	for _, mode := range modes() {
		c := knownClient(mode)
		shown := clientTextAs(c)
		for text, said := range map[string]string{
			"show" + blanks(2996):                                       shown,
			blanks(2996) + "show":                                       shown,
			blanks(2995) + "show\n":                                     shown,
			blanks(3000):                                                "",
			strings.Repeat("x", 3000):                                   "! 5\n",
			strings.Repeat("x", 2999) + "\n":                            "! 5\n",
			strings.Repeat("\xff", 3000):                                "! 5\n",
			strings.Repeat("\u00e4", 1500):                              "! 5\n",
			"snap 0\n" + strings.Repeat("x", 2984) + "\nevict 9\n":      stepAs(c, "snap 0").Said + "\n! 5\n! 3\n",
			strings.Repeat(blanks(187)+"\n", 15) + "show" + blanks(176): shown,
		} {
			if len(text) != 3000 {
				t.Fatalf("there are %d bytes", len(text))
			}
			wantRun(t, c, text, said)
			wantRun(t, c, text[:2999], scriptSaid(c, text[:2999]))
			wantTooMany(t, c, text+" ")
			wantTooMany(t, c, " "+text)
			wantTooMany(t, c, text+"\n")
			wantTooMany(t, c, "\n"+text)
		}
		wantTooMany(t, c, strings.Repeat("\u00e4", 1500)+"x")
		wantTooMany(t, c, strings.Repeat("\u00e4", 1501))
		wantTooMany(t, c, strings.Repeat("x", 1<<20))
		wantTooMany(t, c, strings.Repeat("show\n", 1<<16))
		wantTooMany(t, c, strings.Repeat("show"+blanks(182)+"\n", 16)+"show show")
	}
}

func blanks(count int) string {
	return strings.Repeat(" ", count)
}

// scriptSaid is what is said of a script by the chapter.
func scriptSaid(c impl.Client, text string) string {
	return runAs(c, text).Said
}

// 16 lines and 17, with and without a line feed behind the last one; a line of blanks is one, nothing behind the last line feed is none.
func TestP17RunScriptOfLines(t *testing.T) {
	for _, mode := range modes() {
		c := knownClient(mode)
		for _, line := range []string{"", " ", "evict 9", "wink", "show"} {
			said := saidAs(stepAs(c, line))
			for count := 1; count <= 16; count++ {
				text := strings.Repeat(line+"\n", count)
				wantRun(t, c, text, strings.Repeat(said, count))
				if line != "" {
					wantRun(t, c, strings.TrimSuffix(text, "\n"), strings.Repeat(said, count))
				}
			}
			wantRun(t, c, strings.Repeat(line+"\n", 15)+" ", strings.Repeat(said, 15))
			for _, more := range []string{" ", "x", "\n", " \n", "show", "show\n", "\n\n", "x\ny"} {
				wantTooMany(t, c, strings.Repeat(line+"\n", 16)+more)
				wantTooMany(t, c, "\n"+strings.Repeat(line+"\n", 15)+"\n"+more)
			}
			wantTooMany(t, c, strings.Repeat(line+"\n", 17))
			wantTooMany(t, c, strings.Repeat(line+"\n", 40))
		}
		// Empty lines among others count, but say nothing.
		shown := clientTextAs(c)
		wantRun(t, c, "\n\nshow\n\n \nshow", shown+shown)
		wantRun(t, c, strings.Repeat("\n", 14)+"show\nshow", shown+shown)
		wantRun(t, c, strings.Repeat("\nevict 9\n", 8), strings.Repeat("! 3\n", 8))
		wantTooMany(t, c, strings.Repeat("\n", 15)+"show\nshow")
		// What else may end a line elsewhere ends none.
		wantRun(t, c, strings.Repeat("show\r", 40), "! 5\n")
		wantRun(t, c, "show\r\nshow", "! 5\n"+shown)
		wantRun(t, c, strings.Repeat("\v\f\u0085\u2028\u2029", 30), "! 5\n")
		wantRun(t, c, "show\x00show\n\x00", "! 5\n! 5\n")
	}
}

// Lines with a code between lines without: the client stays as it was, what its cache keeps too.
func TestP17RunScriptOfLinesWithACode(t *testing.T) {
	for _, mode := range modes() {
		s := strayedStore(mode)
		for size := range int64(4) {
			c := clientOf(s, strays(6), size)
			wrong := []string{"next 0 1 9 1", "next 6 0 0 0", "next 0 3 0 0", "next 0 0 256 0", "snap 6", "snap 7", "snap 8", "evict 5", "wink", "submit 00", submitLine(s.Entries[1].Header), submitLine(stray(3)), submitLine(stray(9)), submitLine(strayBehind(s.Entries[3], 9)), submitLine(strayBehind(s.Entries[6], 9))}
			codes := []int64{6, 8, 4, 3, 8, 8, 4, 3, 5, 5, 6, 6, 10, 8, 8}
			if mode == impl.ModeTurns {
				wrong, codes = append(wrong, "next 4 2 0 0"), append(codes, 8)
			}
			for i, line := range wrong {
				fault := fmt.Sprintf("! %d\n", codes[i])
				if then := wantRun(t, c, line, fault); !equalClients(then, c) {
					t.Errorf("the client is another one behind %.40q", line)
				}
				shown := clientTextAs(c)
				wantRun(t, c, "show\n"+line+"\nshow\n"+line+"\n"+line+"\nshow", shown+fault+shown+fault+fault+shown)
				// One that keeps a snapshot, ahead of it and behind it.
				then := wantRun(t, c, "snap 0\n"+line+"\nsnap 3\n"+line, saidAs(stepAs(c, "snap 0"))+fault+saidAs(stepAs(c, "snap 3"))+fault)
				kept := []int64{0, 3}
				wantAll(t, "two that are kept", then, headersOf(s), strays(6), kept[max(0, 2-int(size)):]...)
				wantCut(t, c, "snap 0\n"+line+"\nsnap 3\n"+line)
			}
			text := strings.Join(wrong[:10], "\n")
			if then := wantRun(t, c, text, scriptSaid(c, text)); !equalClients(then, c) {
				t.Error("the client is another one behind all of them")
			}
		}
	}
}

// A script of one line does what the line does, and says that.
func TestP17RunScriptOfOneLine(t *testing.T) {
	for _, mode := range modes() {
		s := strayedStore(mode)
		for _, c := range []impl.Client{knownClient(mode), beginningOf(s, 1), clientOf(fullOf(s), strays(6), 5, 4, 2, 0, 5, 1)} {
			for _, line := range append(rightLines(c), "", " ", "wink", "snap 6", "evict 5", "next 9 9 9 9", "next 0 0 1 1", "submit 0", "submit c0") {
				step := impl.StepScript(c, line)
				want := impl.ScriptResult{Client: step.Client, Said: saidAs(step)}
				if step.Code != impl.OK {
					want.Client = c
				}
				for _, text := range []string{line, line + "\n", " " + line, line + "\n\n", "\n" + line} {
					wantScript(t, fmt.Sprintf("RunScript of %.80q", text), impl.RunScript(c, text), want)
				}
			}
		}
	}
}

// What is said ends with a line feed, if anything is said; each line that is not empty says something.
func TestP17RunScriptSaysLines(t *testing.T) {
	for _, mode := range modes() {
		c := knownClient(mode)
		for _, line := range append(rightLines(c), "wink", "snap 9") {
			for _, text := range []string{line, line + "\n", "\n" + line, line + "\n \n"} {
				said := impl.RunScript(c, text).Said
				if !strings.HasSuffix(said, "\n") || strings.Contains(said, "\n\n") || strings.HasPrefix(said, "\n") {
					t.Errorf("RunScript of %.80q says %q", text, said)
				}
			}
		}
	}
}

// scribe writes lines for a client: such as do something, and such as have a code.
type scribe struct {
	r       *rand.Rand
	headers []impl.Header
}

func (s scribe) line(entries int) string {
	switch r := s.r; r.IntN(16) {
	case 0, 1, 2, 3, 4, 5:
		return nextLine(r.IntN(entries+1), r.IntN(4), []int{0, 0, 1, 2, 3, 9, 200, 255, 256}[r.IntN(9)], []int{0, 1, 1, 1, 1, 2}[r.IntN(6)])
	case 6, 7:
		return fmt.Sprintf("snap %d", r.IntN(entries+2))
	case 8:
		return fmt.Sprintf("evict %d", r.IntN(4))
	case 9:
		return "show"
	case 10:
		return []string{"", "  ", " show ", "  snap   0"}[r.IntN(4)]
	case 11:
		words := []string{"wink", "snap", "show 0", "evict -1", "next 0 0 0", "SHOW", "submit 00", "submit c", "snap 00", "snap 12345", "next 0 0 0 01", "\t"}
		return words[r.IntN(len(words))]
	}
	return submitLine(s.headers[s.r.IntN(len(s.headers))])
}

// script has as many lines as have room in it.
func (s scribe) script(entries int) string {
	text := ""
	for range 1 + s.r.IntN(16) {
		if line := s.line(entries); len(text)+len(line) < 3000 {
			text += line + "\n"
			entries = min(entries+1, 24)
		}
	}
	if s.r.IntN(2) == 0 {
		text = strings.TrimSuffix(text, "\n")
	}
	return text
}

// scribeFor writes of the headers of a grove, of some that may not follow and of some that wait.
func scribeFor(t *testing.T, seed uint64, g grove) scribe {
	t.Helper()
	r := rand.New(rand.NewPCG(163, seed))
	f := wrongFamily(t, r, g)
	return scribe{r: r, headers: append(f.headers, headersOf(g.store)...)}
}

// Long runs of scripts, one on what the other one left: what is done and said is what the chapter says; cut behind each line feed it is the same.
func TestP17ManyScripts(t *testing.T) {
	said := map[string]int{}
	for seed := range uint64(24) {
		g := wrongGroves(t)[seed%4]
		s := scribeFor(t, seed, g)
		c := beginningOf(g.store, int64(seed)%6)
		for range 6 {
			text := s.script(len(c.Store.Entries))
			before := cloneClient(c)
			then := wantRun(t, c, text, scriptSaid(c, text))
			wantCut(t, c, text)
			if !equalClients(before, c) {
				t.Fatal("the client that was told is another one")
			}
			for _, line := range strings.Split(impl.RunScript(c, text).Said, "\n") {
				said[strings.Split(line+" ", " ")[0]]++
				if strings.HasPrefix(line, "!") {
					said[line]++
				}
			}
			c = then
			wantClientSaid(t, "a script", c)
		}
		wantBorne(t, "many scripts", c)
	}
	for _, word := range []string{"joined", "snap", "ok", "entry", "head", "! 3", "! 4", "! 5", "! 6", "! 7", "! 8", "! 10"} {
		if said[word] < 2 {
			t.Errorf("%q is said %d times", word, said[word])
		}
	}
}

// What a script does the functions do that its lines name, one behind the other.
func TestP17RunScriptDoesWhatOthersDo(t *testing.T) {
	for _, mode := range modes() {
		s := knownStore(mode)
		c := beginningOf(s, 2)
		text, then := "", c
		for _, at := range []int{4, 2, 5, 1, 3} {
			text += submitLine(s.Entries[at].Header) + "\n"
			then = impl.SubmitHeader(then, s.Entries[at].Header).Client
		}
		for _, place := range []int64{5, 1, 0} {
			text += fmt.Sprintf("snap %d\n", place)
			then = impl.SnapIn(then, then.Store.Entries[place].Hash).Client
		}
		text += "evict 1\nshow"
		then = impl.EvictIn(then, 1).Client
		got := impl.RunScript(c, text)
		if got.Code != impl.OK || !equalClients(got.Client, then) || !strings.HasSuffix(got.Said, "\nok\n"+impl.ClientText(then).Text) {
			t.Errorf("RunScript: %d, %q and %+v, want %+v", got.Code, got.Said, got.Client, then)
		}
	}
}
