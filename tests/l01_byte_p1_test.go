package tests

import (
	"bytes"
	"math"
	"reflect"
	"strings"
	"testing"

	"loop.example/g00383/impl"
)

// byteArguments are bytes of every kind that chapter 1 tells apart.
func byteArguments() [][]byte {
	return [][]byte{
		nil, {}, {0}, {1}, {255}, {0, 1}, {1, 0}, {1, 0, 0}, {4, 0, 0, 0, 0, 0, 0}, {4, 0, 0, 0, 0, 0, 1}, bytes.Repeat([]byte{255}, 8),
		fill(32), fill(impl.MaxBytes), fill(impl.MaxBytes + 1), fill(1 << 20),
	}
}

func textArguments() []string {
	return []string{
		"", "0", "00", "00ab", "00AB", "zz", "é", "\xff", "\x00", strings.Repeat("a", 2*impl.MaxBytes-1), strings.Repeat("a", 2*impl.MaxBytes),
		strings.Repeat("a", 2*impl.MaxBytes+1), strings.Repeat("a", 1<<20),
	}
}

func numberArguments() []int64 {
	return []int64{math.MinInt64, -topShort, -256, -1, 0, 1, 255, 256, 258, topShort - 1, topShort, topShort + 1, math.MaxInt64}
}

type byteAnswers struct {
	Hex    []impl.TextResult
	Read   []impl.BytesResult
	Same   []bool
	Ahead  []bool
	Short  []impl.BytesResult
	Number []impl.IntResult
}

// askBytes calls each function of chapter 1 with each argument.
func askBytes(datas [][]byte, texts []string, numbers []int64) byteAnswers {
	var all byteAnswers
	for _, a := range datas {
		all.Hex = append(all.Hex, impl.HexOf(a))
		all.Number = append(all.Number, impl.BytesShort(a))
		for _, b := range datas {
			all.Same = append(all.Same, impl.SameBytes(a, b))
			all.Ahead = append(all.Ahead, impl.IsAhead(a, b))
		}
	}
	for _, text := range texts {
		all.Read = append(all.Read, impl.BytesOfHex(text))
	}
	for _, n := range numbers {
		all.Short = append(all.Short, impl.ShortBytes(n))
	}
	return all
}

func TestP1BytesAnswerAtEveryArgument(t *testing.T) {
	all := askBytes(byteArguments(), textArguments(), numberArguments())
	for i, r := range all.Hex {
		if r.Code != impl.OK && (r.Code != impl.ErrMany || r.Text != "") {
			t.Errorf("HexOf at %d: code %d and %d signs", i, r.Code, len(r.Text))
		}
	}
	for i, r := range all.Read {
		if r.Code != impl.OK && (r.Code != impl.ErrMany && r.Code != impl.ErrText || len(r.Bytes) != 0) {
			t.Errorf("BytesOfHex at %d: code %d and %d bytes", i, r.Code, len(r.Bytes))
		}
	}
	for i, r := range all.Short {
		if r.Code != impl.OK && (r.Code != impl.ErrRange || len(r.Bytes) != 0) {
			t.Errorf("ShortBytes at %d: %+v", i, r)
		}
	}
	for i, r := range all.Number {
		if r.Code != impl.OK && r != (impl.IntResult{Code: impl.ErrText}) {
			t.Errorf("BytesShort at %d: %+v", i, r)
		}
	}
}

func TestP1BytesHangOnTheArgumentsAlone(t *testing.T) {
	first := askBytes(byteArguments(), textArguments(), numberArguments())
	again := askBytes(byteArguments(), textArguments(), numberArguments())
	if !reflect.DeepEqual(first, again) {
		t.Error("the same arguments are answered otherwise the second time")
	}
	if !reflect.DeepEqual(first, askBytes(allWithRoom(byteArguments(), 77), textArguments(), numberArguments())) {
		t.Error("an answer hangs on what is behind an argument")
	}
}

func TestP1BytesAnswerSideBySide(t *testing.T) {
	wantSideBySide(t, 20000, func(i int) func() bool {
		n := int64(0x01010101010101) * int64(i) % topShort
		data := bytes.Repeat([]byte{byte(17 * i)}, 40)
		return func() bool {
			return impl.BytesShort(impl.ShortBytes(n).Bytes).Value == n && impl.SameBytes(impl.BytesOfHex(impl.HexOf(data).Text).Bytes, data)
		}
	})
}

func TestP1BytesChangeNoArgument(t *testing.T) {
	wantUnchanged(t, byteArguments(), 99, func(data []byte) {
		askBytes([][]byte{data, fill(32)}, nil, nil)
	})
}

func TestP1BytesAnswersAreNewMemory(t *testing.T) {
	data := []byte{0, 171, 255}
	text := impl.HexOf(data)
	clear(data)
	wantText(t, "HexOf, its argument changed since", text, impl.OK, "00abff")

	one, two := impl.BytesOfHex("00abff"), impl.BytesOfHex("00abff")
	spoil(one.Bytes, 77)
	wantBytes(t, "BytesOfHex beside a changed answer", two, impl.OK, []byte{0, 171, 255})
	wantBytes(t, "BytesOfHex behind a changed answer", impl.BytesOfHex("00abff"), impl.OK, []byte{0, 171, 255})

	for _, n := range shortNumbers() {
		one, two := impl.ShortBytes(n), impl.ShortBytes(n)
		kept := bytes.Clone(two.Bytes)
		spoil(one.Bytes, 77)
		wantBytes(t, "ShortBytes beside a changed answer", two, impl.OK, kept)
		wantBytes(t, "ShortBytes behind a changed answer", impl.ShortBytes(n), impl.OK, kept)
	}
}

func TestP1BytesGrownAnswersStayApart(t *testing.T) {
	one, two := impl.ShortBytes(258), impl.ShortBytes(259)
	three, four := impl.BytesOfHex("0102"), impl.BytesOfHex("0103")
	_ = append(one.Bytes, 9, 9, 9)
	_ = append(three.Bytes, 9, 9, 9)
	wantBytes(t, "ShortBytes beside a grown answer", two, impl.OK, []byte{1, 3})
	wantBytes(t, "BytesOfHex beside a grown answer", four, impl.OK, []byte{1, 3})
}
