package tests

import (
	"math"
	"reflect"
	"slices"
	"testing"

	"loop.example/g00383/impl"
)

// configArguments are settings of every kind that chapter 8 tells apart, with and without a fault.
func configArguments() []impl.Config {
	return append(eachConfig([]int64{math.MinInt64, -1, 0, 1, 2, 3, math.MaxInt64}, []int64{math.MinInt64, -1, 0, 1, 7, 100, 101, math.MaxInt64}), impl.Config{})
}

func countArguments() []int64 {
	return append(blockArguments(), -7, 2, 3, 4, 5, 6, 8, 100)
}

// committedArguments are headers with commits of every kind, with and without a fault.
func committedArguments() []impl.Header {
	list := headerArguments()
	for _, h := range []impl.Header{bareHeader(), signedAs(fullHeader())} {
		all := commitsAs(h, risingAddrs(7))
		stranger := commitsAs(h, [][]byte{outsider(0)})[0]
		wrong := append(cloneLists(all[:6]), flipped(all[6], 63))
		for _, commits := range [][][]byte{nil, all[:1], all[:3], all, wrong, {all[0], all[0]}, {stranger}, {all[0], stranger}} {
			list = append(list, withCommits(h, commits))
		}
	}
	return list
}

func committingArguments() [][][]byte {
	return append(signersArguments(), risingAddrs(1), risingAddrs(4), [][]byte{outsider(0)})
}

type commitAnswers struct {
	Fault, Right []int64
	Text         []impl.TextResult
	Quorum       []impl.IntResult
	Checkpoint   []bool
}

// askCommits calls each function of chapter 8 with each argument, each setting with each number and each list with each header.
func askCommits(configs []impl.Config, numbers []int64, lists [][][]byte, headers []impl.Header) commitAnswers {
	var all commitAnswers
	for _, c := range configs {
		all.Fault = append(all.Fault, impl.ConfigFault(c))
		all.Text = append(all.Text, impl.ConfigText(c))
		for _, number := range numbers {
			all.Checkpoint = append(all.Checkpoint, impl.IsCheckpoint(c, number))
		}
	}
	for _, n := range numbers {
		all.Quorum = append(all.Quorum, impl.QuorumOf(n))
	}
	for _, list := range lists {
		for _, h := range headers {
			all.Right = append(all.Right, impl.CommitsRight(list, h))
		}
	}
	return all
}

func askAllCommits() commitAnswers {
	return askCommits(configArguments(), countArguments(), committingArguments(), committedArguments())
}

func TestP1CommitsAnswerAtEveryArgument(t *testing.T) {
	all := askAllCommits()
	numbers := len(countArguments())
	for i, code := range all.Fault {
		text, marks := all.Text[i], all.Checkpoint[i*numbers:(i+1)*numbers]
		if code != impl.OK && code != impl.ErrRange || text.Code != code || (text.Text == "") != (code != impl.OK) {
			t.Errorf("the setting at %d: its fault is %d, its text %+v", i, code, text)
		}
		if slices.Contains(marks, true) != (code == impl.OK) {
			t.Errorf("the setting at %d has the fault %d, and has checkpoints: %v", i, code, marks)
		}
	}
	for i, r := range all.Quorum {
		wantIntOrCode(t, "QuorumOf", i, r, 5, impl.ErrRange)
		if r.Code == impl.OK && r.Value == 0 {
			t.Errorf("QuorumOf at %d: %+v", i, r)
		}
	}
	codes := []int64{impl.OK, impl.ErrNone, impl.ErrMany, impl.ErrForm, impl.ErrRange, impl.ErrSign, impl.ErrTaken, impl.ErrRule}
	for _, code := range codes {
		if !slices.Contains(all.Right, code) {
			t.Errorf("CommitsRight never tells %d", code)
		}
	}
	for i, code := range all.Right {
		if !slices.Contains(codes, code) {
			t.Errorf("CommitsRight at %d: %d", i, code)
		}
	}
}

func TestP1CommitsHangOnTheArgumentsAlone(t *testing.T) {
	first := askAllCommits()
	if !reflect.DeepEqual(first, askAllCommits()) {
		t.Error("the same arguments are answered otherwise the second time")
	}
	var lists [][][]byte
	for _, list := range committingArguments() {
		if len(list) < 1<<16 {
			list = allWithRoom(list, 7)
		}
		// What is behind the list might be taken for one of it.
		lists = append(lists, withRoom(list, outsider(0)))
	}
	var headers []impl.Header
	for _, h := range committedArguments() {
		headers = append(headers, roomyHeader(h))
	}
	if !reflect.DeepEqual(first, askCommits(configArguments(), countArguments(), lists, headers)) {
		t.Error("an answer hangs on what is behind an argument")
	}
}

// An answer must not hang on what was asked ahead of it, nor on the order in which it is asked.
func TestP1CommitsAnswerTheSameBehindOthers(t *testing.T) {
	signers := risingAddrs(4)
	h := committedAs(someHeader(), signers[:3])
	for i, other := range committedArguments() {
		c := configArguments()[i%len(configArguments())]
		askCommits([]impl.Config{c}, []int64{0, int64(i)}, [][][]byte{nil, other.Signers, risingAddrs(7)}, []impl.Header{other})
		wantCommitsRight(t, "one behind another one", signers, h, impl.OK)
		wantCommitsRight(t, "another one behind it", risingAddrs(7), h, impl.ErrRule)
		wantInt(t, "QuorumOf behind another one", impl.QuorumOf(4), impl.OK, 3)
		wantText(t, "ConfigText behind another one", impl.ConfigText(impl.Config{Mode: 2, Period: 3, Epoch: 30}), impl.OK, "commits 3 30")
		wantCheckpoint(t, impl.Config{Mode: 1, Period: 1, Epoch: 5}, 10, true)
		wantConfigFault(t, impl.Config{Mode: 1, Period: 1, Epoch: 101}, impl.ErrRange)
	}
}

func TestP1CommitsAnswerSideBySide(t *testing.T) {
	wantSideBySide(t, 100, func(i int) func() bool {
		n := 1 + i%7
		signers, quorum := risingAddrs(n), quorums()[n]
		enough, few := committedAs(someHeader(), signers[:quorum]), committedAs(someHeader(), signers[:quorum-1])
		c := impl.Config{Mode: int64(1 + i%2), Period: int64(1 + i), Epoch: int64(2 + i)}
		text := impl.ConfigText(c)
		return func() bool {
			same := impl.CommitsRight(signers, enough) == impl.OK && impl.CommitsRight(signers, few) == impl.ErrRule
			same = same && impl.QuorumOf(int64(n)).Value == int64(quorum) && impl.ConfigFault(c) == impl.OK && impl.ConfigText(c) == text
			return same && impl.IsCheckpoint(c, 3*c.Epoch) && !impl.IsCheckpoint(c, 3*c.Epoch+1)
		}
	})
}

func TestP1CommitsChangeNoArgument(t *testing.T) {
	for i, h := range committedArguments() {
		shown, list := roomyHeader(h), withRoom(allWithRoom(risingAddrs(7), 7), addr(77))
		header, signers := wholeHeader(shown), wholeLists(list)
		// What a header holds is told as the list too.
		askCommits(nil, nil, [][][]byte{list, list[:4], shown.Signers, shown.Commits}, []impl.Header{shown})
		if !reflect.DeepEqual(wholeHeader(shown), header) || !reflect.DeepEqual(wholeLists(list), signers) {
			t.Errorf("the header at %d, the list beside it, or what is behind them, was changed", i)
		}
	}
	for i, list := range roomySigners() {
		before := wholeLists(list)
		askCommits(nil, nil, [][][]byte{list}, committedArguments()[:20])
		if !reflect.DeepEqual(wholeLists(list), before) {
			t.Errorf("the list at %d, or what is behind it, was changed", i)
		}
	}
}

// Signers that lie in the memory of the header's own commits are as good as others.
func TestP1CommitsOfOneMemory(t *testing.T) {
	for n := 1; n <= 7; n++ {
		h := committedAs(someHeader(), risingAddrs(n))
		before := cloneHeader(h)
		var signers [][]byte
		for _, commit := range h.Commits {
			signers = append(signers, commit[:4])
		}
		wantCommitsRight(t, "signers that are in the commits", signers, h, impl.OK)
		if !equalHeaders(h, before) || !equalLists(signers, risingAddrs(n)) {
			t.Error("an argument that shares memory with another one was changed")
		}
	}
}
