package tests

import (
	"encoding/hex"
	"fmt"
	"reflect"
	"regexp"
	"strconv"
	"strings"
	"testing"

	"loop.example/g00383/impl"
)

func sameScript(a impl.ScriptResult, b impl.ScriptResult) bool {
	return a.Code == b.Code && a.Said == b.Said && equalClients(a.Client, b.Client)
}

func wantScript(t *testing.T, call string, got impl.ScriptResult, want impl.ScriptResult) {
	t.Helper()
	if !sameScript(got, want) || got.Code != impl.OK && !reflect.DeepEqual(got, impl.ScriptResult{Code: want.Code}) {
		t.Errorf("%s: code %d, %q and %+v, want code %d, %q and %+v", call, got.Code, got.Said, got.Client, want.Code, want.Said, want.Client)
	}
}

// What the chapter says, reckoned a second time; how a header is read is the program's.

// isCommandAs: the words of a line, one blank between, are those of a command.
func isCommandAs(words []string) bool {
	pattern := strings.ReplaceAll("^(submit ([0-9a-f]{2})+|next N N N N|snap N|evict N|show)$", "N", "(0|[1-9][0-9]{0,3})")
	read := regexp.MustCompile(pattern).MatchString(strings.Join(words, " "))
	return read && (words[0] != "submit" || len(words[1]) <= 2400)
}

func joinedAs(r impl.ClientResult) impl.ScriptResult {
	if r.Code != impl.OK {
		return impl.ScriptResult{Code: r.Code}
	}
	return impl.ScriptResult{Client: r.Client, Said: fmt.Sprintf("joined %d", r.Joined)}
}

// nextAs is the header that a line asks for, of a client without a fault.
func nextAs(c impl.Client, place int, signer int, target int, add int) (int64, impl.Header) {
	if place >= len(c.Store.Entries) {
		return impl.ErrNone, impl.Header{}
	}
	if target > 255 || add > 1 {
		return impl.ErrRange, impl.Header{}
	}
	code, x := snapAtAs(c.Store, place)
	if code != impl.OK {
		return code, impl.Header{}
	}
	if signer >= len(x.Signers) {
		return impl.ErrNone, impl.Header{}
	}
	aim := addr(target)
	if target == 0 {
		aim = nil
	}
	return makeNextAs(c.Store.Config, x, c.Store.Entries[place].Header, x.Signers[signer], aim, add == 1)
}

func doAs(c impl.Client, name string, n []int) impl.ScriptResult {
	switch name {
	case "next":
		code, h := nextAs(c, n[0], n[1], n[2], n[3])
		if code != impl.OK {
			return impl.ScriptResult{Code: code}
		}
		return joinedAs(submitAs(c, h))
	case "snap":
		if n[0] >= len(c.Store.Entries) {
			return impl.ScriptResult{Code: impl.ErrNone}
		}
		got := snapInAs(c, c.Store.Entries[n[0]].Hash)
		if got.Code != impl.OK {
			return impl.ScriptResult{Code: got.Code}
		}
		return impl.ScriptResult{Client: got.Client, Said: snapTextAs(got.Snap)}
	case "evict":
		got := evictAs(c.Cache, int64(n[0]))
		if got.Code != impl.OK {
			return impl.ScriptResult{Code: got.Code}
		}
		return impl.ScriptResult{Client: withClient(c, func(c *impl.Client) { c.Cache = got.Cache }), Said: "ok"}
	}
	return impl.ScriptResult{Client: cloneClient(c), Said: clientTextAs(c)}
}

// stepAs is what the chapter says of a line.
func stepAs(c impl.Client, line string) impl.ScriptResult {
	if code := clientFaultAs(c); code != impl.OK {
		return impl.ScriptResult{Code: code}
	}
	words := wordsAs(line)
	switch {
	case strings.Contains(line, "\n"):
		return impl.ScriptResult{Code: impl.ErrText}
	case len(words) == 0:
		return impl.ScriptResult{Client: cloneClient(c)}
	case !isCommandAs(words):
		return impl.ScriptResult{Code: impl.ErrText}
	case words[0] == "submit":
		read := impl.UnpackHeader(unhex(words[1]))
		if read.Code != impl.OK {
			return impl.ScriptResult{Code: read.Code}
		}
		return joinedAs(submitAs(c, read.Header))
	}
	var numbers []int
	for _, word := range words[1:] {
		n, _ := strconv.Atoi(word)
		numbers = append(numbers, n)
	}
	return doAs(c, words[0], numbers)
}

// wantStep: what StepScript tells is what the chapter says, with that code, and that is said; the client that comes of it, or the one that was, is told.
func wantStep(t *testing.T, c impl.Client, line string, code int64, said string) impl.Client {
	t.Helper()
	want := stepAs(c, line)
	if want.Code != code || want.Said != said {
		t.Fatalf("%.300q: by the chapter it is %d and %q, the test wants %d and %q: %+v", line, want.Code, want.Said, code, said, c)
	}
	wantScript(t, fmt.Sprintf("StepScript of %.300q", line), impl.StepScript(c, line), want)
	if code != impl.OK {
		return c
	}
	return want.Client
}

// wantSteps are the same of each line.
func wantSteps(t *testing.T, c impl.Client, code int64, lines ...string) {
	t.Helper()
	for _, line := range lines {
		wantStep(t, c, line, code, "")
	}
}

// submitLine hands a header in, as the chapter says that it is written.
func submitLine(h impl.Header) string {
	return "submit " + hex.EncodeToString(headerTree(h).bytes())
}

// rightLines are one of each kind, for a client of a known store that keeps one at least.
func rightLines(c impl.Client) []string {
	return []string{"show", "snap 0", "snap 4", "evict 0", "next 0 1 3 1", "next 4 0 0 0", submitLine(stray(111))}
}

func knownClient(mode int64) impl.Client {
	return clientOf(knownStore(mode), strays(2), 3, 4, 1)
}

// The code of the client comes first, whatever the line is; for a whole script too.
func TestP17ScriptOfAClientWithAFault(t *testing.T) {
	for _, row := range faultyClients() {
		lines := append(rightLines(row.client), "", "   ", "wink", "\n", "show\n", "\nshow", "next 9 9 256 2", "snap 99999", "evict 01", "submit 0", "Show", strings.Repeat("show\n", 17), strings.Repeat(" ", 3001))
		for _, line := range lines {
			wantScript(t, "StepScript with a fault", impl.StepScript(row.client, line), impl.ScriptResult{Code: row.code})
			wantScript(t, "RunScript with a fault", impl.RunScript(row.client, line), impl.ScriptResult{Code: row.code})
		}
	}
}

// A line feed at the beginning, at each place in the midst, and at the end.
func TestP17StepScriptOfLineFeeds(t *testing.T) {
	for _, mode := range modes() {
		c := knownClient(mode)
		wantSteps(t, c, impl.ErrText, "\n", "\n\n", " \n", "\n ", " \n ", "\r\n")
		for _, line := range rightLines(c) {
			wantStep(t, c, line, impl.OK, stepAs(c, line).Said)
			for at := range len(line) + 1 {
				if at < 12 || at > len(line)-3 {
					wantSteps(t, c, impl.ErrText, line[:at]+"\n"+line[at:])
				}
			}
			wantSteps(t, c, impl.ErrText, "\n"+line+"\n", line+"\nshow", "show\n"+line, line+" \n", "\n  "+line)
			if strings.Contains(line, " ") {
				wantSteps(t, c, impl.ErrText, strings.ReplaceAll(line, " ", "\n"), strings.ReplaceAll(line, " ", " \n "), strings.Replace(line, " ", "\n ", 1))
			}
		}
	}
}

// No words: nothing changes, and nothing is said.
func TestP17StepScriptOfNoWords(t *testing.T) {
	for _, mode := range modes() {
		s := strayedStore(mode)
		for _, c := range append(askedClients(s), beginningOf(s, 0), clientOf(fullOf(s), strays(6), 2, 0)) {
			for _, line := range []string{"", " ", "     ", strings.Repeat(" ", 5000)} {
				then := wantStep(t, c, line, impl.OK, "")
				if !equalClients(then, c) || !equalClients(impl.StepScript(c, line).Client, c) {
					t.Errorf("the client is another one behind %.20q", line)
				}
			}
		}
	}
}

// Blanks ahead, behind and several between are nothing.
func TestP17StepScriptOfBlanks(t *testing.T) {
	for _, mode := range modes() {
		c := knownClient(mode)
		for _, line := range rightLines(c) {
			want := stepAs(c, line)
			for _, spaced := range []string{" " + line, line + " ", "   " + line + "    ", strings.ReplaceAll(line, " ", "   "), strings.Repeat(" ", 4000) + line} {
				wantStep(t, c, spaced, want.Code, want.Said)
			}
		}
	}
}

// Words that are no command: other ones, near ones, in capitals, and what is said.
func TestP17StepScriptOfNoCommand(t *testing.T) {
	c := knownClient(impl.ModeTurns)
	wantSteps(t, c, impl.ErrText, "wink", "x", "0", "N", "00", "-", "!", "! 5", "joined 1", "ok", "head 4", "entry 0", "submit", "next", "snap", "evict", "submits 00", "sho", "shows", "how", "snaps 0", "sna 0", "nap 0", "evic 0", "nex 0 0 0 0", "nexts 0 0 0 0", "help", "quit", "#", "# show", "show;", "show,", "'show'")
	wantSteps(t, c, impl.ErrText, "show\t", "\tshow", "show\r", "show\x00", "\xffshow", "show\xa0", "show\u00a0", "\ufeffshow", "snap\t0", "snap 0\t", "next\u00a00 1 3 1", "evict\x000", "evict 0\r", "snap\u20030")
	for _, line := range rightLines(c) {
		words := strings.SplitN(line, " ", 2)
		rest := strings.TrimPrefix(line, words[0])
		wantSteps(t, c, impl.ErrText, strings.ToUpper(words[0])+rest, strings.ToUpper(words[0][:1])+words[0][1:]+rest, words[0][:2]+strings.ToUpper(words[0][2:])+rest, words[0]+words[0]+rest, words[0]+"s"+rest)
		for at := range len(words[0]) {
			wantSteps(t, c, impl.ErrText, words[0][:at]+words[0][at+1:]+rest, words[0][:at]+" "+words[0][at:]+"0"+rest)
		}
	}
	wantSteps(t, c, impl.ErrText, strings.Repeat("x", 1<<16), strings.Repeat("show ", 1<<12), strings.Repeat("show", 1<<12))
	// The names of one command with the words of another one.
	wantSteps(t, c, impl.ErrText, "show 0", "show 0 1 3 1", "snap 0 1 3 1", "evict 0 1 3 1", "submit 0 1 3 1", "next 0", "next 00", "snap 00", "evict 00", "snap abcd", "evict abcd", "next abcd", "show abcd", "0 snap", "snap show", "show snap 0", "snap snap 0")
}

// A word too few and one too many, of each kind of word.
func TestP17StepScriptOfTooFewOrTooManyWords(t *testing.T) {
	for _, mode := range modes() {
		c := knownClient(mode)
		for _, line := range rightLines(c) {
			words := strings.Split(line, " ")
			for few := range len(words) {
				if few > 0 {
					wantSteps(t, c, impl.ErrText, strings.Join(words[:few], " "), strings.Join(words[:few], " ")+" ")
				}
			}
			for _, more := range []string{"0", "1", "00", "ab", "x", "show", words[0], "-", "\t", "9999"} {
				wantSteps(t, c, impl.ErrText, line+" "+more, words[0]+" "+more+strings.TrimPrefix(line, words[0]), more+" "+line, line+" "+more+" "+more)
			}
			wantSteps(t, c, impl.ErrText, line+" "+line, line+strings.Repeat(" 0", 300))
		}
	}
}

// Numbers of 1 and of 4 digits, and between; no code of a word that cannot be read.
func TestP17StepScriptOfNumbers(t *testing.T) {
	for _, mode := range modes() {
		c := knownClient(mode)
		for _, n := range []int{0, 1, 2, 5, 6, 7, 9, 10, 11, 42, 90, 99, 100, 101, 255, 256, 500, 999, 1000, 1001, 2048, 9000, 9998, 9999} {
			word := strconv.Itoa(n)
			if n > 5 {
				wantSteps(t, c, impl.ErrNone, "snap "+word, "next "+word+" 0 0 0", "next "+word+" 9999 9999 9999")
			}
			if n > 2 {
				wantSteps(t, c, impl.ErrNone, "next 0 "+word+" 0 0")
				wantSteps(t, c, impl.ErrRange, "evict "+word, "next 0 0 0 "+word, "next 0 0 256 "+word)
			}
			if n > 255 {
				wantSteps(t, c, impl.ErrRange, "next 0 0 "+word+" 0", "next 0 0 "+word+" 1")
				continue
			}
			wantStep(t, c, "next 0 1 "+word+" 1", stepAs(c, "next 0 1 "+word+" 1").Code, stepAs(c, "next 0 1 "+word+" 1").Said)
		}
	}
}

// wrongNumerals are no numbers: of no digits or of five, with a 0 ahead, with a sign, with another byte among the digits.
func wrongNumerals() []string {
	return []string{
		"00", "01", "02", "007", "0000", "0001", "0255", "00000", "00001", "10000", "10001", "12345", "99999", "65536", "100000", "4294967296", "9223372036854775807", "9223372036854775808", "18446744073709551616", "18446744073709551617",
		strings.Repeat("0", 100), strings.Repeat("9", 100), "1" + strings.Repeat("0", 2000),
		"+0", "+1", "-0", "-1", "+12", "-12", "--1", "0-", "1-", "1+", "+", "-", "0+0", "1.", "1.0", ".1", "0.", "1,0", "1e1", "1e", "0x1", "0x", "0b1", "0o1", "1_0", "_1", "1_", "a", "f", "1a", "a1", "1a1", "O", "o", "l", "N", "!1", "#1", "'1'", "\"1\"", "1/", "1:", "/1", ":1", "1;", "(1)",
		"1\t", "\t1", "1\r", "1\v1", "1\x00", "\x001", "1\xff", "\xa01", "1\x801", "\u00a01", "\uff11", "\u0661", "\u00b9", "\u00bd", "1\u03012",
	}
}

// At each place of each command: what is no number is told ahead of all else that would be.
func TestP17StepScriptOfWhatIsNoNumber(t *testing.T) {
	c := knownClient(impl.ModeCommits)
	for _, word := range wrongNumerals() {
		wantSteps(t, c, impl.ErrText, "snap "+word, "evict "+word, "next "+word+" 0 0 0", "next 0 "+word+" 0 0", "next 0 0 "+word+" 0", "next 0 0 0 "+word)
		wantSteps(t, c, impl.ErrText, "next "+word+" 9 256 2", "next 9 "+word+" 256 2", "next 9 9 "+word+" 2", "next 9 9 256 "+word)
	}
}

// Each byte alone, ahead of a digit, behind one and among several: no other one than a digit is a part of a number.
func TestP17StepScriptOfEachByteInANumber(t *testing.T) {
	c := beginningOf(knownStore(impl.ModeTurns), 1)
	for b := range 256 {
		piece := string([]byte{byte(b)})
		if piece == " " {
			continue
		}
		for _, word := range []string{piece, "1" + piece, piece + "1", "1" + piece + "1", "12" + piece + "3", piece + "123"} {
			codes := map[string]int64{"snap " + word: impl.ErrNone, "evict " + word: impl.ErrRange, "next " + word + " 0 0 2": impl.ErrNone, "next 0 9 0 " + word: impl.ErrRange}
			n, _ := strconv.Atoi(word)
			if b < '0' || b > '9' || word != "0" && word[0] == '0' {
				n = -1
			}
			for line, code := range codes {
				if n < 0 {
					code = impl.ErrText
				} else if n < 2 {
					// Two of them ask for what is there, or are told what is right.
					wantStep(t, c, line, stepAs(c, line).Code, stepAs(c, line).Said)
					continue
				}
				wantStep(t, c, line, code, "")
			}
		}
	}
}

// Handed in as they come, and from the last one to the first one.
func TestP17StepScriptSubmit(t *testing.T) {
	for _, mode := range modes() {
		s := knownStore(mode)
		all := headersOf(s)
		for _, size := range []int64{0, 2, 5} {
			c := beginningOf(s, size)
			for at := 1; at < 6; at++ {
				c = wantStep(t, c, submitLine(all[at]), impl.OK, "joined 1")
			}
			wantSameStore(t, c.Store, s)
			c = beginningOf(s, size)
			for _, row := range []struct {
				at   int
				said string
			}{{4, "joined 0"}, {2, "joined 0"}, {5, "joined 0"}, {1, "joined 3"}, {3, "joined 2"}} {
				c = wantStep(t, c, submitLine(all[row.at]), impl.OK, row.said)
				// It is there, or it waits.
				wantStep(t, c, submitLine(all[row.at]), impl.ErrTaken, "")
			}
			wantStep(t, c, submitLine(all[0]), impl.ErrTaken, "")
		}
	}
}

func wantSameStore(t *testing.T, got impl.Store, want impl.Store) {
	t.Helper()
	if !equalStores(got, want) {
		t.Errorf("the store is %+v, want %+v", got, want)
	}
}

// One whose parent is not there waits; a seventh finds no room.
func TestP17StepScriptSubmitOfWhatWaits(t *testing.T) {
	for _, mode := range modes() {
		c := clientOf(knownStore(mode), nil, 2, 4)
		for at := range 6 {
			c = wantStep(t, c, submitLine(stray(byte(at))), impl.OK, "joined 0")
			wantStep(t, c, submitLine(stray(byte(at))), impl.ErrTaken, "")
		}
		wantAll(t, "six that wait", c, headersOf(c.Store), strays(6), 4)
		wantStep(t, c, submitLine(stray(7)), impl.ErrFull, "")
		wantStep(t, c, submitLine(withChange(stray(3), func(h *impl.Header) { h.Commits = nil })), impl.ErrTaken, "")
	}
}

// Each code of CheckNext, behind each entry.
func TestP17StepScriptSubmitOfWhatMayNotFollow(t *testing.T) {
	told := map[int64]int{}
	for i, g := range wrongGroves(t) {
		for up := range g.store.Entries {
			for j, row := range addFaults(g, up) {
				if (i+j+up)%3 > 0 {
					continue
				}
				h := g.draft(up, g.free(up)[0]).with(row.change).finished().next
				wantStep(t, clientOf(g.store, strays(2), 2, int64(up)), submitLine(h), row.code, "")
				told[row.code]++
			}
		}
		full := clientOf(fullOf(g.store), nil, 0)
		wantStep(t, full, submitLine(g.draft(2, g.free(2)[0]).finished().next), impl.ErrFull, "")
	}
	for _, code := range []int64{impl.ErrRange, impl.ErrRule, impl.ErrSign, impl.ErrForm, impl.ErrTaken} {
		if told[code] < 5 {
			t.Errorf("the code %d was told %d times", code, told[code])
		}
	}
}

// Bytes that are no header, and texts that are none of bytes: they cannot be read.
func TestP17StepScriptSubmitOfWhatIsNoHeader(t *testing.T) {
	for _, mode := range modes() {
		c := knownClient(mode)
		right := submitLine(stray(9))
		wantStep(t, c, right, impl.OK, "joined 0")
		digits := strings.TrimPrefix(right, "submit ")
		texts := []string{"00", "c0", "80", "01", "7f", "f8", "cb8080808080c080808080c0", digits[2:], digits[:len(digits)-2], digits + "00", "00" + digits, digits + digits, strings.Repeat("00", 1199), strings.Repeat("00", 1200), strings.Repeat("c0", 1200)}
		texts = append(texts, "0", "f", "000", digits[1:], digits[:len(digits)-1], digits+"0", "0g", "g0", "0x00", "0X00", "-0", "+00", "0.", "00\t", "\t00", "zz", "\xff\xff", "\x00\x00", "a\u0301", strings.Repeat("00", 1200)+"0", strings.Repeat("00", 1201), strings.Repeat("0", 2401), strings.Repeat("00", 1<<14), strings.Repeat("zz", 1<<14))
		for _, text := range texts {
			wantStep(t, c, "submit "+text, impl.ErrText, "")
		}
		wantSteps(t, c, impl.ErrText, "submit "+strings.ToUpper(digits), "submit "+digits[:4]+" "+digits[4:], "submit "+digits[:40]+"\n"+digits[40:], "submit 0x"+digits, "submit"+digits, "submit\t"+digits)
		letter := strings.IndexAny(digits, "abcdef")
		wantSteps(t, c, impl.ErrText, "submit "+digits[:letter]+strings.ToUpper(digits[letter:letter+1])+digits[letter+1:])
		for _, change := range []func(h *impl.Header){
			func(h *impl.Header) { h.Number = topNumber + 1 },
			func(h *impl.Header) { h.Hard = 10 },
			func(h *impl.Header) { h.Nonce = 3 },
			func(h *impl.Header) { h.Seal = fill(3) },
			func(h *impl.Header) { h.Target = fill(5) },
			func(h *impl.Header) { h.Signers = risingAddrs(8) },
			func(h *impl.Header) { h.Commits = someCommits(8) },
			func(h *impl.Header) { h.Commits = [][]byte{fill(8), fill(7)} },
			func(h *impl.Header) { h.Parent = h.Parent[1:] },
		} {
			wantSteps(t, c, impl.ErrText, submitLine(withChange(stray(9), change)), submitLine(withChange(c.Store.Entries[0].Header, change)))
		}
	}
}
