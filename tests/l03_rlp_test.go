package tests

import (
	"bytes"
	"encoding/hex"
	"math"
	"math/big"
	"slices"
	"strings"
	"testing"

	"loop.example/g00383/impl"
)

const mostItemBytes = 300

// tree is an item with all that is in it, as one thinks of it: it knows neither places nor parents.
type tree struct {
	list  bool
	data  []byte
	parts []tree
}

func leaf(data ...byte) tree {
	return tree{data: data}
}

func listOf(parts ...tree) tree {
	return tree{list: true, parts: parts}
}

// repeated is a list with one part many times over.
func repeated(part tree, times int) tree {
	return listOf(slices.Repeat([]tree{part}, times)...)
}

// nested has a number of lists, each in the one ahead, and an item in the last one.
func nested(lists int, last tree) tree {
	for range lists {
		last = listOf(last)
	}
	return last
}

func (tr tree) addTo(items []impl.Item, parent int64) []impl.Item {
	place := int64(len(items))
	items = append(items, impl.Item{List: tr.list, Parent: parent, Bytes: bytes.Clone(tr.data)})
	for _, part := range tr.parts {
		items = part.addTo(items, place)
	}
	return items
}

func (tr tree) items() []impl.Item {
	return tr.addTo(nil, -1)
}

// writeHead writes a head from the numbers that the chapter names, for any length.
func writeHead(list bool, n int) []byte {
	short, long := 128, 183
	if list {
		short, long = 192, 247
	}
	if n <= 55 {
		return []byte{byte(short + n)}
	}
	length := big.NewInt(int64(n)).Bytes()
	return append([]byte{byte(long + len(length))}, length...)
}

// bytes writes a tree part by part, for any number and any length.
func (tr tree) bytes() []byte {
	within := tr.data
	if tr.list {
		within = nil
		for _, part := range tr.parts {
			within = append(within, part.bytes()...)
		}
	} else if len(within) == 1 && within[0] < 128 {
		return bytes.Clone(within)
	}
	return append(writeHead(tr.list, len(within)), within...)
}

func unhex(text string) []byte {
	data, err := hex.DecodeString(strings.ReplaceAll(text, " ", ""))
	if err != nil {
		panic(err)
	}
	return data
}

func wantItems(t *testing.T, call string, got impl.ItemsResult, code int64, items []impl.Item) {
	t.Helper()
	same := len(got.Items) == len(items)
	for i := 0; same && i < len(items); i++ {
		a, b := got.Items[i], items[i]
		same = a.List == b.List && a.Parent == b.Parent && bytes.Equal(a.Bytes, b.Bytes)
	}
	if got.Code != code || !same {
		t.Errorf("%s: %+v, want code %d and %+v", call, got, code, items)
	}
}

func wantFault(t *testing.T, call string, items []impl.Item, code int64) {
	t.Helper()
	if got := impl.ItemsFault(items); got != code {
		t.Errorf("ItemsFault of %s: %d, want %d", call, got, code)
	}
	// Whoever is told such items tells their fault ahead of all else.
	if code != impl.OK {
		wantBytes(t, "EncodeItems of "+call, impl.EncodeItems(items), code, nil)
		wantInts(t, "PartsOf of "+call, impl.PartsOf(items, 0), code, nil)
		wantInts(t, "PartsOf of "+call+" at no place", impl.PartsOf(items, -1), code, nil)
	}
}

// wantBothWays: a tree is written as data, and data is read as it.
func wantBothWays(t *testing.T, call string, tr tree, data []byte) {
	t.Helper()
	wantFault(t, call, tr.items(), impl.OK)
	wantBytes(t, "EncodeItems of "+call, impl.EncodeItems(tr.items()), impl.OK, data)
	wantItems(t, "DecodeItems of "+call, impl.DecodeItems(data), impl.OK, tr.items())
}

func wantNoItems(t *testing.T, call string, data []byte) {
	t.Helper()
	wantItems(t, "DecodeItems of "+call, impl.DecodeItems(data), impl.ErrText, nil)
}

func TestP4Constants(t *testing.T) {
	if impl.MaxItems != 200 || impl.MaxDeep != 5 {
		t.Errorf("MaxItems is %d, MaxDeep %d", impl.MaxItems, impl.MaxDeep)
	}
}

func TestP4ItemsFaultOfOne(t *testing.T) {
	wantFault(t, "nil", nil, impl.ErrMany)
	wantFault(t, "no items", []impl.Item{}, impl.ErrMany)
	wantFault(t, "no bytes", []impl.Item{{Parent: -1}}, impl.OK)
	wantFault(t, "one byte", []impl.Item{{Parent: -1, Bytes: []byte{0}}}, impl.OK)
	wantFault(t, "an empty list", []impl.Item{{Parent: -1, List: true}}, impl.OK)
	wantFault(t, "a list with no bytes that are not nil", []impl.Item{{Parent: -1, List: true, Bytes: []byte{}}}, impl.OK)
	wantFault(t, "a list with bytes", []impl.Item{{Parent: -1, List: true, Bytes: []byte{0}}}, impl.ErrForm)
	wantFault(t, "300 bytes", []impl.Item{{Parent: -1, Bytes: fill(300)}}, impl.OK)
	wantFault(t, "301 bytes", []impl.Item{{Parent: -1, Bytes: fill(301)}}, impl.ErrMany)
	wantFault(t, "very many bytes", []impl.Item{{Parent: -1, Bytes: fill(1 << 17)}}, impl.ErrMany)
	for _, parent := range []int64{0, 1, -2, 200, math.MaxInt64, math.MinInt64} {
		wantFault(t, "a first one with a parent", []impl.Item{{Parent: parent}}, impl.ErrRange)
		wantFault(t, "a first list with a parent", []impl.Item{{List: true, Parent: parent}, {}}, impl.ErrRange)
	}
}

func TestP4ItemsFaultOfMany(t *testing.T) {
	wantFault(t, "200 items", repeated(leaf(), 199).items(), impl.OK)
	wantFault(t, "201 items", repeated(leaf(), 200).items(), impl.ErrMany)
	wantFault(t, "very many items", make([]impl.Item, 1<<17), impl.ErrMany)
	wantFault(t, "200 items, the last one too long", append(repeated(leaf(), 198).items(), impl.Item{Bytes: fill(301)}), impl.ErrMany)
	wantFault(t, "200 items, the last one beyond", append(repeated(leaf(), 198).items(), impl.Item{Parent: 199}), impl.ErrRange)
	wantFault(t, "200 items, the last one without a list", append(repeated(leaf(), 198).items(), impl.Item{Parent: 198}), impl.ErrForm)
	wantFault(t, "200 items of 300 bytes", repeated(leaf(fill(300)...), 199).items(), impl.OK)
}

func TestP4ItemsFaultOfParents(t *testing.T) {
	first := impl.Item{List: true, Parent: -1}
	for _, parent := range []int64{-1, -2, 1, 2, 3, 199, 200, math.MaxInt64, math.MinInt64} {
		wantFault(t, "a second one with no place ahead", []impl.Item{first, {Parent: parent}}, impl.ErrRange)
		wantFault(t, "a second list with no place ahead", []impl.Item{first, {List: true, Parent: parent}, {List: true}, {}}, impl.ErrRange)
	}
	wantFault(t, "a third one in itself", []impl.Item{first, {}, {List: true, Parent: 2}}, impl.ErrRange)
	wantFault(t, "a third one in the next one", []impl.Item{first, {}, {Parent: 3}, {List: true}}, impl.ErrRange)
	wantFault(t, "one in bytes", []impl.Item{{Parent: -1}, {}}, impl.ErrForm)
	wantFault(t, "one in bytes in a list", []impl.Item{first, {}, {Parent: 1}}, impl.ErrForm)
	wantFault(t, "one in bytes further ahead", []impl.Item{first, {}, {}, {Parent: 1}}, impl.ErrForm)
	wantFault(t, "one in the list ahead", []impl.Item{first, {List: true}, {Parent: 1}}, impl.OK)
	wantFault(t, "one in the list of that ahead", []impl.Item{first, {List: true}, {Parent: 1}, {Parent: 1}}, impl.OK)
	wantFault(t, "one in the list above that", []impl.Item{first, {List: true}, {Parent: 1}, {Parent: 0}}, impl.OK)
	wantFault(t, "one in a list that has ended", []impl.Item{first, {List: true}, {}, {Parent: 1}}, impl.ErrForm)
	wantFault(t, "one in a list that had parts, and has ended", []impl.Item{first, {List: true}, {Parent: 1}, {}, {Parent: 1}}, impl.ErrForm)
	wantFault(t, "one in the list beside", []impl.Item{first, {List: true}, {List: true}, {Parent: 1}}, impl.ErrForm)
	wantFault(t, "one in the list beside, a part ahead", []impl.Item{first, {List: true}, {List: true}, {Parent: 2}, {Parent: 1}}, impl.ErrForm)
}

func TestP4ItemsFaultOfDeep(t *testing.T) {
	for lists := range 5 {
		wantFault(t, "up to 5 from one up", nested(lists, leaf(7)).items(), impl.OK)
		wantFault(t, "up to 5 lists from one up", nested(lists, listOf()).items(), impl.OK)
	}
	for lists := 5; lists < 12; lists++ {
		wantFault(t, "6 and more from one up", nested(lists, leaf(7)).items(), impl.ErrMany)
		wantFault(t, "6 and more lists from one up", nested(lists, listOf()).items(), impl.ErrMany)
	}
	wantFault(t, "many at the fifth", nested(4, repeated(leaf(), 0)).items(), impl.OK)
	wantFault(t, "many in the fourth", nested(3, repeated(leaf(), 9)).items(), impl.OK)
	deep := listOf(nested(4, leaf()), leaf(1), nested(4, leaf()))
	wantFault(t, "6 from one up, twice", deep.items(), impl.ErrMany)
	fine := listOf(nested(3, leaf()), leaf(1), nested(3, leaf()), nested(3, listOf()))
	wantFault(t, "5 from one up, several times", fine.items(), impl.OK)
	wantFault(t, "all lists, each in the one ahead", nested(199, listOf()).items(), impl.ErrMany)
}

func TestP4ItemsFaultTheFirstCode(t *testing.T) {
	first := impl.Item{List: true, Parent: -1}
	long := fill(301)
	wantFault(t, "too many, the first one with a parent", make([]impl.Item, 201), impl.ErrMany)
	wantFault(t, "too many, the first list with bytes", slices.Repeat([]impl.Item{{List: true, Parent: -1, Bytes: long}}, 201), impl.ErrMany)
	wantFault(t, "a list with too many bytes", []impl.Item{{List: true, Parent: -1, Bytes: long}}, impl.ErrForm)
	wantFault(t, "a list with bytes and a parent", []impl.Item{{List: true, Parent: 0, Bytes: []byte{1}}}, impl.ErrForm)
	wantFault(t, "too many bytes and a parent", []impl.Item{{Parent: 0, Bytes: long}}, impl.ErrMany)
	wantFault(t, "too many bytes and no place", []impl.Item{first, {Parent: -1, Bytes: long}}, impl.ErrMany)
	wantFault(t, "too many bytes in no list", []impl.Item{{Parent: -1}, {Bytes: long}}, impl.ErrMany)
	wantFault(t, "a list with bytes, at no place", []impl.Item{first, {List: true, Parent: 7, Bytes: []byte{1}}}, impl.ErrForm)
	wantFault(t, "in bytes, and too deep", append(nested(4, leaf(1)).items(), impl.Item{Parent: 4}), impl.ErrForm)
	// Item by item: what the first one has is told ahead of what the next one has.
	wantFault(t, "a parent, then a list with bytes", []impl.Item{{List: true, Parent: 0}, {List: true, Bytes: long}}, impl.ErrRange)
	wantFault(t, "a list with bytes, then a parent", []impl.Item{first, {List: true, Bytes: []byte{1}}, {Parent: -1}}, impl.ErrForm)
	wantFault(t, "too long, then a list with bytes", []impl.Item{first, {Bytes: long}, {List: true, Bytes: []byte{1}}}, impl.ErrMany)
	wantFault(t, "no place, then too long", []impl.Item{first, {Parent: 1}, {Bytes: long}}, impl.ErrRange)
	wantFault(t, "in no list, then too long", []impl.Item{first, {}, {Parent: 1}, {Bytes: long}}, impl.ErrForm)
	wantFault(t, "in no list, then no place", []impl.Item{first, {}, {Parent: 1}, {Parent: -1}}, impl.ErrForm)
	wantFault(t, "too deep, then a list with bytes", append(nested(5, leaf(1)).items(), impl.Item{List: true, Bytes: []byte{1}}), impl.ErrMany)
	wantFault(t, "too deep, then no place", append(nested(5, leaf(1)).items(), impl.Item{Parent: -1}), impl.ErrMany)
}

// faultByOpenLists tells the fault of items by the lists that are open ahead of each one.
func faultByOpenLists(items []impl.Item) int64 {
	if len(items) == 0 || len(items) > 200 {
		return impl.ErrMany
	}
	open := []int64{-1}
	for i, item := range items {
		if len(item.Bytes) > 0 && item.List {
			return impl.ErrForm
		}
		if len(item.Bytes) > 300 {
			return impl.ErrMany
		}
		if i == 0 && item.Parent != -1 || i > 0 && (item.Parent < 0 || int(item.Parent) >= i) {
			return impl.ErrRange
		}
		at := slices.Index(open, item.Parent)
		if at < 0 {
			return impl.ErrForm
		}
		// The lists from -1 to the parent are one more than the items above this one.
		if at+1 > 5 {
			return impl.ErrMany
		}
		open = open[:at+1]
		if item.List {
			open = append(open, int64(i))
		}
	}
	return impl.OK
}

func TestP4ItemsFaultOfAllFewItems(t *testing.T) {
	var kinds []impl.Item
	for parent := int64(-2); parent <= 4; parent++ {
		kinds = append(kinds, impl.Item{Parent: parent}, impl.Item{List: true, Parent: parent})
	}
	kinds = append(kinds, impl.Item{List: true, Bytes: []byte{1}}, impl.Item{Bytes: fill(301)})
	items := make([]impl.Item, 0, 5)
	good := make([]int, 6)
	var more func()
	more = func() {
		want := faultByOpenLists(items)
		if got := impl.ItemsFault(items); got != want {
			t.Fatalf("ItemsFault of %+v: %d, want %d", items, got, want)
		}
		if want == impl.OK {
			good[len(items)]++
		}
		if len(items) == cap(items) || len(items) > 0 && want != impl.OK {
			return
		}
		for _, kind := range kinds {
			items = append(items, kind)
			more()
			items = items[:len(items)-1]
		}
	}
	more()
	// As many as there are trees with so many items, those without parts of two kinds each.
	if want := []int{0, 2, 2, 6, 22, 90}; !slices.Equal(good, want) {
		t.Errorf("items without a fault, by how many they are: %v, want %v", good, want)
	}
}

func TestP4HeadBytes(t *testing.T) {
	known := []struct {
		list bool
		n    int64
		head string
	}{
		{false, 0, "80"}, {false, 1, "81"}, {false, 55, "b7"}, {false, 56, "b838"}, {false, 255, "b8ff"}, {false, 256, "b90100"}, {false, 1199, "b904af"}, {false, 1200, "b904b0"},
		{true, 0, "c0"}, {true, 1, "c1"}, {true, 55, "f7"}, {true, 56, "f838"}, {true, 255, "f8ff"}, {true, 256, "f90100"}, {true, 1199, "f904af"}, {true, 1200, "f904b0"},
	}
	for _, k := range known {
		wantBytes(t, "HeadBytes", impl.HeadBytes(k.list, k.n), impl.OK, unhex(k.head))
	}
	for _, list := range []bool{false, true} {
		for n := range 1201 {
			wantBytes(t, "HeadBytes", impl.HeadBytes(list, int64(n)), impl.OK, writeHead(list, n))
		}
		for _, n := range []int64{-1, -2, -55, -128, -256, 1201, 1202, 65536, 1 << 50, 1<<50 + 1, math.MaxInt64, math.MinInt64} {
			wantBytes(t, "HeadBytes out of its bounds", impl.HeadBytes(list, n), impl.ErrRange, nil)
		}
	}
}

func TestP4KnownItems(t *testing.T) {
	known := []struct {
		tree tree
		data string
	}{
		{leaf(), "80"}, {listOf(), "c0"}, {leaf(0), "00"}, {leaf(1), "01"}, {leaf(127), "7f"}, {leaf(128), "8180"}, {leaf(255), "81ff"}, {leaf(0, 0), "820000"}, {leaf(4, 0), "820400"},
		{leaf([]byte("dog")...), "83646f67"}, {listOf(leaf([]byte("cat")...), leaf([]byte("dog")...)), "c88363617483646f67"},
		{listOf(leaf()), "c180"}, {listOf(listOf()), "c1c0"}, {listOf(leaf(5)), "c105"}, {listOf(leaf(127)), "c17f"}, {listOf(leaf(128)), "c28180"}, {listOf(leaf(192)), "c281c0"},
		{listOf(listOf(), listOf(listOf()), listOf(listOf(), listOf(listOf()))), "c7c0c1c0c3c0c1c0"},
		{listOf(listOf(leaf(1), leaf(2)), leaf(3), listOf(), leaf(4)), "c6c2010203c004"},
		{listOf(leaf(1), listOf(leaf(2), listOf(leaf(3), listOf(leaf(4))), leaf(5)), leaf(6)), "c901c602c303c1040506"},
		{leaf([]byte("Lorem ipsum dolor sit amet, consectetur adipisicing elit")...), "b838" + hex.EncodeToString([]byte("Lorem ipsum dolor sit amet, consectetur adipisicing elit"))},
		{nested(4, leaf(9)), "c4c3c2c109"}, {nested(4, listOf()), "c4c3c2c1c0"}, {nested(4, leaf(200)), "c5c4c3c281c8"},
	}
	for _, k := range known {
		wantBothWays(t, k.data, k.tree, unhex(k.data))
	}
	for b := range 256 {
		one := leaf(byte(b))
		wantBothWays(t, "one byte", one, one.bytes())
		wantBothWays(t, "one byte in a list", listOf(one), listOf(one).bytes())
	}
}

func TestP4LengthsOfBytes(t *testing.T) {
	for n := range mostItemBytes + 1 {
		tr := leaf(fill(n)...)
		wantBothWays(t, "bytes", tr, tr.bytes())
		wantBothWays(t, "bytes in lists", nested(4, tr), nested(4, tr).bytes())
	}
	wantBothWays(t, "55 bytes", leaf(fill(55)...), append([]byte{0xb7}, fill(55)...))
	wantBothWays(t, "56 bytes", leaf(fill(56)...), append([]byte{0xb8, 56}, fill(56)...))
	wantBothWays(t, "255 bytes", leaf(fill(255)...), append([]byte{0xb8, 255}, fill(255)...))
	wantBothWays(t, "256 bytes", leaf(fill(256)...), append([]byte{0xb9, 1, 0}, fill(256)...))
	wantBothWays(t, "300 bytes", leaf(fill(300)...), append([]byte{0xb9, 1, 44}, fill(300)...))
	wantNoItems(t, "301 bytes", leaf(fill(301)...).bytes())
	wantNoItems(t, "301 bytes in a list", listOf(leaf(), leaf(fill(301)...)).bytes())
	wantNoItems(t, "1197 bytes", leaf(fill(1197)...).bytes())
}

func TestP4LengthsOfLists(t *testing.T) {
	for n := range 198 {
		tr := repeated(leaf(byte(n%128)), n)
		wantBothWays(t, "a list of single bytes", tr, tr.bytes())
		wantBothWays(t, "a list in a list", listOf(leaf(), tr), listOf(leaf(), tr).bytes())
	}
	wantBothWays(t, "a list of 55 bytes", repeated(leaf(7), 55), append([]byte{0xf7}, bytes.Repeat([]byte{7}, 55)...))
	wantBothWays(t, "a list of 56 bytes", repeated(leaf(7), 56), append([]byte{0xf8, 56}, bytes.Repeat([]byte{7}, 56)...))
	wantBothWays(t, "a list of 55 bytes in a list of 56", listOf(repeated(leaf(7), 55)), append([]byte{0xf8, 56, 0xf7}, bytes.Repeat([]byte{7}, 55)...))
	wantBothWays(t, "a list of 54 bytes in a list of 55", listOf(repeated(leaf(7), 54)), append([]byte{0xf7, 0xf6}, bytes.Repeat([]byte{7}, 54)...))
	wantBothWays(t, "a list of 56 bytes in a list of 58", listOf(repeated(leaf(7), 56)), append([]byte{0xf8, 58, 0xf8, 56}, bytes.Repeat([]byte{7}, 56)...))
	wantBothWays(t, "a list of one of 55 bytes", listOf(leaf(fill(55)...)), append([]byte{0xf8, 56, 0xb7}, fill(55)...))
	wantBothWays(t, "a list of one of 54 bytes", listOf(leaf(fill(54)...)), append([]byte{0xf7, 0xb6}, fill(54)...))
	wantBothWays(t, "a list of 255 bytes", listOf(leaf(fill(253)...)), append([]byte{0xf8, 255, 0xb8, 253}, fill(253)...))
	wantBothWays(t, "a list of 256 bytes", listOf(leaf(fill(254)...)), append([]byte{0xf9, 1, 0, 0xb8, 254}, fill(254)...))
}

func TestP4MostBytes(t *testing.T) {
	for last := 270; last <= 300; last++ {
		tr := listOf(leaf(fill(300)...), leaf(fill(300)...), leaf(fill(300)...), leaf(fill(last)...))
		data := tr.bytes()
		if last <= 285 {
			wantBothWays(t, "a long list", tr, data)
			continue
		}
		wantFault(t, "a list that is too long", tr.items(), impl.OK)
		wantBytes(t, "EncodeItems of a list that is too long", impl.EncodeItems(tr.items()), impl.ErrMany, nil)
		wantItems(t, "DecodeItems of too many bytes", impl.DecodeItems(data), impl.ErrMany, nil)
	}
	most := listOf(leaf(fill(300)...), leaf(fill(300)...), leaf(fill(300)...), leaf(fill(285)...))
	if n := len(impl.EncodeItems(most.items()).Bytes); n != 1200 {
		t.Errorf("the longest list has %d bytes", n)
	}
	// The last one brings the list itself, the one in it, or the one in that one beyond MaxBytes.
	for _, lists := range []int{1, 2, 3} {
		for n := 1190 - 3*lists; n <= 1206; n++ {
			left := n - 3*303 - 3
			tr := nested(lists, listOf(leaf(fill(300)...), leaf(fill(300)...), leaf(fill(300)...), leaf(fill(left)...)))
			data, want := tr.bytes(), int64(impl.OK)
			if len(data) > 1200 {
				data, want = nil, impl.ErrMany
			}
			wantBytes(t, "EncodeItems of lists in lists", impl.EncodeItems(tr.items()), want, data)
		}
	}
	for n := 4; n < 200; n++ {
		tr := repeated(leaf(fill(300)...), n)
		wantBytes(t, "EncodeItems of far too many bytes", impl.EncodeItems(tr.items()), impl.ErrMany, nil)
	}
	two := listOf(repeated(leaf(fill(300)...), 3), repeated(leaf(fill(300)...), 3))
	wantBytes(t, "EncodeItems of two lists that fit alone", impl.EncodeItems(two.items()), impl.ErrMany, nil)
}

func TestP4DecodeItemsTooManyBytes(t *testing.T) {
	for _, n := range []int{1201, 1202, 1203, 2400, 1 << 20} {
		wantItems(t, "DecodeItems of too many zeros", impl.DecodeItems(make([]byte, n)), impl.ErrMany, nil)
		wantItems(t, "DecodeItems of too many bytes", impl.DecodeItems(fill(n)), impl.ErrMany, nil)
	}
	wantNoItems(t, "1200 zeros", make([]byte, 1200))
	wantNoItems(t, "1200 bytes", fill(1200))
	wantNoItems(t, "1200 empty lists", bytes.Repeat([]byte{0xc0}, 1200))
	wantNoItems(t, "1200 heads of long lists", bytes.Repeat([]byte{0xff}, 1200))
	wantNoItems(t, "1197 zeros in a list", append([]byte{0xf9, 4, 173}, make([]byte, 1197)...))
}

func TestP4DecodeItemsTooManyItems(t *testing.T) {
	wantBothWays(t, "200 items", repeated(leaf(), 199), repeated(leaf(), 199).bytes())
	wantNoItems(t, "201 items", repeated(leaf(), 200).bytes())
	wantNoItems(t, "202 items", repeated(leaf(), 201).bytes())
	wantBothWays(t, "200 lists", repeated(listOf(), 199), repeated(listOf(), 199).bytes())
	wantNoItems(t, "201 lists", repeated(listOf(), 200).bytes())
	wantBothWays(t, "200 items in lists", repeated(listOf(leaf(1), leaf(2)), 66).with(leaf(3)), repeated(listOf(leaf(1), leaf(2)), 66).with(leaf(3)).bytes())
	wantNoItems(t, "201 items in lists", repeated(listOf(leaf(1), leaf(2)), 66).with(leaf(3), leaf(4)).bytes())
}

// with is a list and some parts more.
func (tr tree) with(parts ...tree) tree {
	return listOf(append(slices.Clone(tr.parts), parts...)...)
}

func TestP4DecodeItemsTooDeep(t *testing.T) {
	for lists := range 5 {
		wantBothWays(t, "up to 5 deep", nested(lists, leaf(77)), nested(lists, leaf(77)).bytes())
		wantBothWays(t, "up to 5 lists deep", nested(lists, listOf()), nested(lists, listOf()).bytes())
	}
	for lists := 5; lists < 390; lists++ {
		wantNoItems(t, "6 and more deep", nested(lists, leaf(77)).bytes())
		wantNoItems(t, "6 and more lists deep", nested(lists, listOf()).bytes())
	}
	wantNoItems(t, "6 deep behind others", listOf(leaf(1), nested(3, leaf()), nested(4, leaf()), leaf(2)).bytes())
}

func TestP4DecodeItemsWrong(t *testing.T) {
	fifty := strings.Repeat("2a", 50)
	wrong := []string{
		// Bytes behind the end.
		"0000", "0001", "7f80", "8000", "8080", "c000", "c0c0", "80c0", "c08080", "8363617400", "c1c000", "c10505", "818000",
		// Bytes that are cut short.
		"81", "82", "8200", "83", "836361", "b7", "bf", "b8", "b838", "b9", "b901", "b90100", "c1", "c2", "c200", "f7", "f8", "f838", "f9", "f901", "ff", "c883636174", "c88363617483646f", "c1c1", "c2c1",
		// A byte below 128 with a head of its own.
		"8100", "8101", "817f", "c28100", "c2817f", "c3018105", "c3c28105",
		// A length of 55 or less with a long head.
		"b800", "b801ff", "b802ffff", "b832" + fifty, "b837" + fifty + "2a2a2a2a2a", "f800", "f801c0", "f80180", "f832" + fifty, "f837" + fifty + "2a2a2a2a2a", "c2b800", "c2f800",
		// A length with a 0 ahead.
		"b90038" + fifty + "2a2a2a2a2a2a", "f90038" + fifty + "2a2a2a2a2a2a", "ba000038" + fifty + "2a2a2a2a2a2a", "b900", "b90000", "f90000", "ba000000", "fa000000", "bb00000000",
		"bf0000000000000000", "ff0000000000000000", "bf0000000000000038" + fifty + "2a2a2a2a2a2a", "ff0000000000000038" + fifty + "2a2a2a2a2a2a",
		// A length far beyond.
		"b8ff00", "b9ffff00", "bbffffffff00", "bf7fffffffffffffff", "bfffffffffffffffff", "bf8000000000000000", "ff7fffffffffffffff", "ffffffffffffffffff", "ff8000000000000000",
		"bfffffffffffffffff00", "bffffffffffffffff600", "ffffffffffffffffff00", "fffffffffffffffff600", "be04000000000000", "be03ffffffffffff", "fe04000000000000", "fbffffffff00",
		// A part that goes beyond its list.
		"c181", "c18180", "c281", "c28261", "c2826162", "c183636174", "c3c18180", "c3c1818080", "c3c28363", "c4c2836361", "c4c1c1c000", "c1c100", "c2c200", "c3c1c200", "c4c28161c0", "c1b8", "c1f8", "c2b838", "c1c1c0", "c2c1c1c0",
	}
	for _, text := range wrong {
		wantNoItems(t, text, unhex(text))
	}
	wantNoItems(t, "nil", nil)
	wantNoItems(t, "no bytes", []byte{})
	// Heads with a length of some other number of bytes than it needs, nothing else being wrong.
	for _, list := range []bool{false, true} {
		for _, n := range []int{0, 1, 2, 54, 55, 56, 57, 255, 256, 257, 300} {
			for lengthBytes := 1; lengthBytes <= 8; lengthBytes++ {
				wide := make([]byte, 8)
				big.NewInt(int64(n)).FillBytes(wide)
				long := byte(183 + lengthBytes)
				if list {
					long += 64
				}
				head := append([]byte{long}, wide[8-lengthBytes:]...)
				body := bytes.Repeat([]byte{128}, n)
				if list && n > 199 {
					// So that there are few enough.
					body = append([]byte{0xb8, 199}, bytes.Repeat([]byte{128}, n-2)...)
				}
				data := append(head, body...)
				if bytes.Equal(head, writeHead(list, n)) {
					continue
				}
				wantNoItems(t, hex.EncodeToString(head)+" and its bytes", data)
			}
		}
	}
}
