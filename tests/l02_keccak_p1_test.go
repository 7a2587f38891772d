package tests

import (
	"bytes"
	"math"
	"reflect"
	"slices"
	"testing"

	"loop.example/g00383/impl"
)

// hashArguments are bytes of every kind that chapter 2 tells apart.
func hashArguments() [][]byte {
	list := [][]byte{nil, {}, {0}, {1}, {255}, []byte("abc")}
	for _, n := range []int{31, 134, 135, 136, 137, 271, 272, impl.MaxBytes, impl.MaxBytes + 1, 1 << 20} {
		list = append(list, fill(n))
	}
	return list
}

func stateArguments() [][]int64 {
	list := [][]int64{nil, {}, {-1}, fillWords(49), fillWords(50), fillWords(51), make([]int64, 50), make([]int64, 1<<16)}
	for _, no := range noWords() {
		first, last := fillWords(50), fillWords(50)
		first[0], last[49] = no, no
		list = append(list, first, last)
	}
	return list
}

func turnArguments() []int64 {
	return append(noWords(), 0, 1, 2, 31, 32, 33, 63, 64, 65, 1<<31, topWord)
}

type keccakAnswers struct {
	Turn []impl.IntsResult
	Mix  []impl.IntsResult
	Pad  []impl.BytesResult
	Hash []impl.BytesResult
	Text []impl.TextResult
}

// askKeccak calls each function of chapter 2 with each argument.
func askKeccak(datas [][]byte, states [][]int64, turns []int64) keccakAnswers {
	var all keccakAnswers
	for _, data := range datas {
		all.Pad = append(all.Pad, impl.PadBytes(data))
		all.Hash = append(all.Hash, impl.KeccakOf(data))
		all.Text = append(all.Text, impl.HashText(data))
	}
	for _, state := range states {
		all.Mix = append(all.Mix, impl.MixState(state))
	}
	for _, high := range turns {
		for _, low := range turns {
			for _, n := range turns {
				all.Turn = append(all.Turn, impl.TurnLane(high, low, n))
			}
		}
	}
	return all
}

func TestP1KeccakAnswersAtEveryArgument(t *testing.T) {
	all := askKeccak(hashArguments(), stateArguments(), turnArguments())
	for i, r := range all.Turn {
		wantLength(t, "TurnLane", i, r.Code, len(r.List), []int64{impl.ErrRange}, 2)
	}
	for i, r := range all.Mix {
		wantLength(t, "MixState", i, r.Code, len(r.List), []int64{impl.ErrForm, impl.ErrRange}, 50)
	}
	many := []int64{impl.ErrMany}
	for i, r := range all.Pad {
		wantLength(t, "PadBytes", i, r.Code, len(r.Bytes), many, 136, 272, 408, 1224)
	}
	for i, r := range all.Hash {
		wantLength(t, "KeccakOf", i, r.Code, len(r.Bytes), many, 32)
	}
	for i, r := range all.Text {
		wantLength(t, "HashText", i, r.Code, len(r.Text), many, 64)
	}
}

func TestP1KeccakHangsOnTheArgumentsAlone(t *testing.T) {
	first := askKeccak(hashArguments(), stateArguments(), turnArguments())
	again := askKeccak(hashArguments(), stateArguments(), turnArguments())
	if !reflect.DeepEqual(first, again) {
		t.Error("the same arguments are answered otherwise the second time")
	}
	if !reflect.DeepEqual(first, askKeccak(allWithRoom(hashArguments(), 77), allWithRoom(stateArguments(), 7), turnArguments())) {
		t.Error("an answer hangs on what is behind an argument")
	}
}

func TestP1KeccakAnswersSideBySide(t *testing.T) {
	wantSideBySide(t, 300, func(i int) func() bool {
		data := fill(100*i + 35)
		state := make([]int64, stateWords)
		state[i] = int64(i)
		hash, text, mixed, padded := impl.KeccakOf(data).Bytes, impl.HashText(data).Text, impl.MixState(state).List, impl.PadBytes(data).Bytes
		return func() bool {
			same := bytes.Equal(impl.KeccakOf(data).Bytes, hash) && impl.HashText(data).Text == text
			return same && slices.Equal(impl.MixState(state).List, mixed) && bytes.Equal(impl.PadBytes(data).Bytes, padded)
		}
	})
}

func TestP1KeccakChangesNoArgument(t *testing.T) {
	wantUnchanged(t, hashArguments(), 99, func(data []byte) { askKeccak([][]byte{data}, nil, nil) })
	wantUnchanged(t, stateArguments(), 9, func(state []int64) { askKeccak(nil, [][]int64{state}, nil) })
}

func TestP1KeccakAnswersShareNoMemory(t *testing.T) {
	data, state := fill(135), fillWords(stateWords)
	calls := []struct {
		name string
		ints func() []int64
		data func() []byte
	}{
		{name: "TurnLane", ints: func() []int64 { return impl.TurnLane(1, 2, 3).List }},
		{name: "TurnLane by 0", ints: func() []int64 { return impl.TurnLane(1, 2, 0).List }},
		{name: "MixState", ints: func() []int64 { return impl.MixState(state).List }},
		{name: "PadBytes", data: func() []byte { return impl.PadBytes(data).Bytes }},
		{name: "KeccakOf", data: func() []byte { return impl.KeccakOf(data).Bytes }},
	}
	for _, c := range calls {
		if c.ints != nil {
			one, two := c.ints(), c.ints()
			kept := slices.Clone(two)
			spoil(one, math.MaxInt64)
			if !slices.Equal(two, kept) || !slices.Equal(c.ints(), kept) {
				t.Errorf("%s: an answer is changed with another one", c.name)
			}
			continue
		}
		one, two := c.data(), c.data()
		kept := bytes.Clone(two)
		spoil(one, 77)
		if !bytes.Equal(two, kept) || !bytes.Equal(c.data(), kept) {
			t.Errorf("%s: an answer is changed with another one", c.name)
		}
	}
	if !bytes.Equal(data, fill(135)) || !slices.Equal(state, fillWords(stateWords)) {
		t.Error("an argument is changed with an answer")
	}
}

func TestP1KeccakAnswersDoNotFollowTheirArguments(t *testing.T) {
	room := append(fill(135), make([]byte, 300)...)
	data, state := room[:135], fillWords(stateWords)
	padded, hash, text, mixed := impl.PadBytes(data), impl.KeccakOf(data), impl.HashText(data), impl.MixState(state)
	keptPadded, keptHash, keptMixed := bytes.Clone(padded.Bytes), bytes.Clone(hash.Bytes), slices.Clone(mixed.List)
	spoil(room, 77)
	spoil(state, 7)
	wantBytes(t, "PadBytes, its argument changed since", padded, impl.OK, keptPadded)
	wantBytes(t, "KeccakOf, its argument changed since", hash, impl.OK, keptHash)
	wantText(t, "HashText, its argument changed since", text, impl.OK, impl.HexOf(keptHash).Text)
	wantInts(t, "MixState, its argument changed since", mixed, impl.OK, keptMixed)
}
