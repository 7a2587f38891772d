package tests

import (
	"bytes"
	"math"
	"reflect"
	"slices"
	"testing"

	"loop.example/g00383/impl"
)

// itemsArguments are items of every kind that chapter 3 tells apart, with and without a fault.
func itemsArguments() [][]impl.Item {
	first := impl.Item{List: true, Parent: -1}
	return [][]impl.Item{
		nil, {}, {{}}, {{Parent: -1}}, {first}, {{List: true, Parent: -1, Bytes: []byte{1}}}, {{Parent: math.MinInt64}}, {{Parent: math.MaxInt64}},
		{first, {Parent: -1}}, {first, {Parent: 1}}, {first, {Parent: 2}}, {first, {Parent: math.MaxInt64}}, {first, {Parent: math.MinInt64}}, {first, {}, {Parent: 1}}, {first, {List: true}, {}, {Parent: 1}},
		leaf(1).items(), leaf(128).items(), leaf(fill(55)...).items(), leaf(fill(56)...).items(), leaf(fill(300)...).items(), leaf(fill(301)...).items(), leaf(fill(1 << 16)...).items(),
		listOf(leaf(1), listOf(leaf(2, 3), listOf()), leaf()).items(), nested(4, leaf(1)).items(), nested(5, leaf(1)).items(), nested(199, leaf(1)).items(), nested(1000, leaf(1)).items(),
		repeated(leaf(), 199).items(), repeated(leaf(), 200).items(), repeated(leaf(fill(300)...), 3).items(), repeated(leaf(fill(300)...), 4).items(), repeated(leaf(fill(300)...), 199).items(),
		make([]impl.Item, 1<<16),
	}
}

func rlpArguments() [][]byte {
	list := [][]byte{nil, {}, {0}, {127}, {128}, {129}, {129, 127}, {129, 128}, {192}, {193}, {193, 192}, {192, 192}, {255}, bytes.Repeat([]byte{255}, 9), bytes.Repeat([]byte{255}, 1200)}
	for _, tr := range []tree{
		leaf(fill(55)...), leaf(fill(56)...), leaf(fill(300)...), leaf(fill(301)...), listOf(leaf(1), listOf(leaf(2, 3), listOf()), leaf()), nested(4, leaf(1)), nested(5, leaf(1)), nested(390, leaf(1)),
		repeated(leaf(), 199), repeated(leaf(), 200), repeated(leaf(fill(300)...), 3), repeated(leaf(fill(300)...), 4), repeated(leaf(), 1197),
	} {
		list = append(list, tr.bytes())
	}
	for _, n := range []int{2, 56, 300, 1199, 1200, 1201, 1 << 20} {
		list = append(list, fill(n), make([]byte, n))
	}
	return list
}

func placeArguments() []int64 {
	return []int64{math.MinInt64, -2, -1, 0, 1, 2, 3, 5, 55, 56, 199, 200, 201, 255, 256, 1200, 1201, math.MaxInt64}
}

type itemsAnswers struct {
	Fault []int64
	Write []impl.BytesResult
	Read  []impl.ItemsResult
	Parts []impl.IntsResult
	Same  []bool
	Head  []impl.BytesResult
}

// askItems calls each function of chapter 3 with each argument.
func askItems(lists [][]impl.Item, datas [][]byte, places []int64) itemsAnswers {
	var all itemsAnswers
	for _, a := range lists {
		all.Fault = append(all.Fault, impl.ItemsFault(a))
		all.Write = append(all.Write, impl.EncodeItems(a))
		for _, at := range places {
			all.Parts = append(all.Parts, impl.PartsOf(a, at))
		}
		for _, b := range lists {
			all.Same = append(all.Same, impl.SameItems(a, b))
		}
	}
	for _, data := range datas {
		all.Read = append(all.Read, impl.DecodeItems(data))
	}
	for _, n := range places {
		all.Head = append(all.Head, impl.HeadBytes(false, n), impl.HeadBytes(true, n))
	}
	return all
}

func TestP1ItemsAnswerAtEveryArgument(t *testing.T) {
	all := askItems(itemsArguments(), rlpArguments(), placeArguments())
	faults := []int64{impl.ErrForm, impl.ErrMany, impl.ErrRange}
	for i, code := range all.Fault {
		if code != impl.OK && !slices.Contains(faults, code) {
			t.Errorf("ItemsFault at %d: %d", i, code)
		}
	}
	for i, r := range all.Write {
		wantLength(t, "EncodeItems", i, r.Code, min(len(r.Bytes), 1), faults, 1)
	}
	for i, r := range all.Read {
		wantLength(t, "DecodeItems", i, r.Code, min(len(r.Items), 1), []int64{impl.ErrMany, impl.ErrText}, 1)
	}
	for i, r := range all.Parts {
		wantLength(t, "PartsOf", i, r.Code, min(len(r.List), 1), faults, 0, 1)
	}
	for i, r := range all.Head {
		wantLength(t, "HeadBytes", i, r.Code, len(r.Bytes), []int64{impl.ErrRange}, 1, 2, 3)
	}
}

// roomyItems are the same items, in memory with more room than it shows.
func roomyItems(items []impl.Item) []impl.Item {
	roomy := withRoom(items, impl.Item{List: true, Parent: 9, Bytes: []byte{7}})
	for i, item := range roomy {
		roomy[i].Bytes = append(bytes.Clone(item.Bytes), 77, 78, 79)[:len(item.Bytes)]
	}
	return roomy
}

func TestP1ItemsHangOnTheArgumentsAlone(t *testing.T) {
	first := askItems(itemsArguments(), rlpArguments(), placeArguments())
	again := askItems(itemsArguments(), rlpArguments(), placeArguments())
	if !reflect.DeepEqual(first, again) {
		t.Error("the same arguments are answered otherwise the second time")
	}
	var lists [][]impl.Item
	for _, items := range itemsArguments() {
		lists = append(lists, roomyItems(items))
	}
	if !reflect.DeepEqual(first, askItems(lists, allWithRoom(rlpArguments(), 5), placeArguments())) {
		t.Error("an answer hangs on what is behind an argument")
	}
}

// A reading that ends in the middle of lists must leave nothing behind for the next one.
func TestP1ItemsAnswerTheSameBehindAFault(t *testing.T) {
	good := listOf(leaf(1), listOf(leaf(2, 3), listOf()), leaf())
	for _, data := range rlpArguments() {
		impl.DecodeItems(data)
		wantItems(t, "DecodeItems behind another one", impl.DecodeItems(good.bytes()), impl.OK, good.items())
	}
	for _, items := range itemsArguments() {
		impl.EncodeItems(items)
		wantBytes(t, "EncodeItems behind another one", impl.EncodeItems(good.items()), impl.OK, good.bytes())
	}
}

func TestP1ItemsAnswerSideBySide(t *testing.T) {
	wantSideBySide(t, 500, func(i int) func() bool {
		tr := listOf(leaf(fill(30*i+1)...), repeated(leaf(byte(i)), i), nested(3, leaf(byte(i))))
		items, data, cut := tr.items(), tr.bytes(), tr.bytes()[1:]
		parts := impl.PartsOf(items, 0).List
		return func() bool {
			same := bytes.Equal(impl.EncodeItems(items).Bytes, data) && impl.SameItems(impl.DecodeItems(data).Items, items)
			return same && impl.DecodeItems(cut).Code == impl.ErrText && slices.Equal(impl.PartsOf(items, 0).List, parts)
		}
	})
}

// wholeOf copies all that a list of items may reach, the room behind it and behind the bytes too.
func wholeOf(items []impl.Item) []impl.Item {
	whole := slices.Clone(items[:cap(items)])
	for i := range whole {
		data := whole[i].Bytes
		whole[i].Bytes = bytes.Clone(data[:cap(data)])
	}
	return whole
}

func TestP1ItemsChangeNoArgument(t *testing.T) {
	for i, items := range itemsArguments() {
		shown := roomyItems(items)
		before := wholeOf(shown)
		askItems([][]impl.Item{shown}, nil, placeArguments())
		impl.SameItems(shown, itemsArguments()[i])
		impl.SameItems(itemsArguments()[i], shown)
		if !reflect.DeepEqual(wholeOf(shown), before) {
			t.Errorf("the items at %d, or what is behind them, were changed", i)
		}
	}
	wantUnchanged(t, rlpArguments(), 99, func(data []byte) { askItems(nil, [][]byte{data}, nil) })
}

// spoilItems overwrites the bytes of items, then the items themselves, with the room behind both.
func spoilItems(items []impl.Item) {
	for _, item := range items {
		spoil(item.Bytes, 77)
	}
	spoil(items, impl.Item{List: true, Parent: 77, Bytes: []byte{77}})
}

func TestP1ItemsAnswersShareNoMemory(t *testing.T) {
	tr := listOf(leaf(1), leaf(200), listOf(leaf(2, 3), listOf()), leaf(), leaf(fill(60)...))
	items, data := tr.items(), tr.bytes()

	one, two := impl.DecodeItems(data), impl.DecodeItems(data)
	spoilItems(one.Items)
	wantItems(t, "DecodeItems beside a changed answer", two, impl.OK, tr.items())
	wantItems(t, "DecodeItems behind a changed answer", impl.DecodeItems(data), impl.OK, tr.items())
	// No two lists of one answer share any: what is done to one item's bytes is seen in no other.
	for at := range two.Items {
		got := impl.DecodeItems(data)
		spoil(got.Items[at].Bytes, 77)
		_ = append(got.Items[at].Bytes, 77, 77, 77)
		got.Items[at].Bytes = two.Items[at].Bytes
		wantItems(t, "DecodeItems, one item changed", got, impl.OK, tr.items())
	}

	for _, single := range []tree{tr, leaf(5), leaf(200), leaf(), listOf(), leaf(fill(60)...)} {
		shown := single.items()
		one, two := impl.EncodeItems(shown), impl.EncodeItems(shown)
		spoil(one.Bytes, 77)
		wantBytes(t, "EncodeItems beside a changed answer", two, impl.OK, single.bytes())
		wantBytes(t, "EncodeItems behind a changed answer", impl.EncodeItems(shown), impl.OK, single.bytes())
		wantSame(t, "an argument beside a changed answer", shown, single.items(), true)
	}

	parts, others := impl.PartsOf(items, 0), impl.PartsOf(items, 0)
	spoil(parts.List, 77)
	wantInts(t, "PartsOf beside a changed answer", others, impl.OK, []int64{1, 2, 3, 6, 7})
	wantInts(t, "PartsOf behind a changed answer", impl.PartsOf(items, 0), impl.OK, []int64{1, 2, 3, 6, 7})

	for _, n := range []int64{0, 55, 56, 1200} {
		one, two := impl.HeadBytes(true, n), impl.HeadBytes(true, n)
		spoil(one.Bytes, 77)
		wantBytes(t, "HeadBytes beside a changed answer", two, impl.OK, writeHead(true, int(n)))
		wantBytes(t, "HeadBytes behind a changed answer", impl.HeadBytes(true, n), impl.OK, writeHead(true, int(n)))
	}
	if !bytes.Equal(data, tr.bytes()) || !reflect.DeepEqual(items, tr.items()) {
		t.Error("an argument is changed with an answer")
	}
}

func TestP1ItemsAnswersDoNotFollowTheirArguments(t *testing.T) {
	for _, tr := range []tree{leaf(5), leaf(200), leaf(fill(60)...), listOf(leaf(1), leaf(200), listOf(leaf(2, 3), listOf()), leaf())} {
		items, data := tr.items(), tr.bytes()
		written, read, parts := impl.EncodeItems(items), impl.DecodeItems(data), impl.PartsOf(items, 0)
		kept := slices.Clone(parts.List)
		spoilItems(items)
		spoil(data, 77)
		wantBytes(t, "EncodeItems, its argument changed since", written, impl.OK, tr.bytes())
		wantItems(t, "DecodeItems, its argument changed since", read, impl.OK, tr.items())
		wantInts(t, "PartsOf, its argument changed since", parts, impl.OK, kept)
	}
}
