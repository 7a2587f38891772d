package tests

import (
	"bytes"
	"math"
	"math/rand/v2"
	"slices"
	"testing"

	"loop.example/g00383/impl"
)

// someTree makes a tree of at most so many items, of lengths on both sides of each edge; each seed makes one, and the same one each time.
func someTree(r *rand.Rand, items *int, deep int) tree {
	*items--
	if deep < 5 && r.IntN(5) < 3 {
		var parts []tree
		for r.IntN(6) > 0 && *items > 0 {
			parts = append(parts, someTree(r, items, deep+1))
		}
		return listOf(parts...)
	}
	lengths := []int{0, 1, 1, 1, 2, 3, 8, 20, 32, 54, 55, 56, 57}
	data := fill(lengths[r.IntN(len(lengths))])
	for i := range data {
		data[i] += byte(r.IntN(256))
	}
	return leaf(data...)
}

func someTrees(times int) []tree {
	var list []tree
	for seed := range times {
		r := rand.New(rand.NewPCG(uint64(seed), 3))
		items := 1 + r.IntN(120)
		list = append(list, someTree(r, &items, 1))
	}
	return list
}

func TestP4ItemsAreReadBack(t *testing.T) {
	read := 0
	for _, tr := range someTrees(3000) {
		data := tr.bytes()
		if len(data) > impl.MaxBytes {
			wantBytes(t, "EncodeItems of too many bytes", impl.EncodeItems(tr.items()), impl.ErrMany, nil)
			continue
		}
		wantBothWays(t, "a tree", tr, data)
		read++
	}
	if read < 2000 {
		t.Errorf("no more than %d trees were read back", read)
	}
}

// wantTheirs: bytes that are read as items are those that the items are written as.
func wantTheirs(t *testing.T, data []byte) bool {
	t.Helper()
	got := impl.DecodeItems(data)
	if got.Code != impl.OK {
		wantNoItems(t, "bytes", data)
		return false
	}
	wantFault(t, "what was read", got.Items, impl.OK)
	wantBytes(t, "EncodeItems of what was read", impl.EncodeItems(got.Items), impl.OK, data)
	return true
}

func TestP4BytesThatAreReadAreTheirs(t *testing.T) {
	r := rand.New(rand.NewPCG(7, 7))
	read := 0
	for _, tr := range someTrees(1500) {
		data := tr.bytes()
		for range 10 {
			at := r.IntN(len(data))
			changed := bytes.Clone(data)
			changed[at] = byte(r.IntN(256))
			gone := slices.Delete(bytes.Clone(data), at, at+1)
			more := slices.Insert(bytes.Clone(data), at, byte(r.IntN(256)))
			for _, other := range [][]byte{changed, gone, more} {
				if len(other) <= impl.MaxBytes && wantTheirs(t, other) {
					read++
				}
			}
		}
	}
	if read < 1000 {
		t.Errorf("no more than %d changed bytes were read", read)
	}
}

func TestP4NothingIsReadOfAPieceOrWithMore(t *testing.T) {
	for _, tr := range someTrees(200) {
		data := tr.bytes()
		for n := 0; n < len(data) && n <= impl.MaxBytes; n++ {
			wantNoItems(t, "bytes that are cut short", data[:n])
		}
		for b := 0; b < 256 && len(data) < impl.MaxBytes; b++ {
			wantNoItems(t, "bytes and one more", append(bytes.Clone(data), byte(b)))
		}
	}
}

// writtenBytes are the bytes of all items that have at most so many bytes, those in them out of some alone; by their length.
func writtenBytes(most int, some []byte) [][]string {
	items := make([][]string, most+1)
	bodies := [][]string{{""}}
	runs := [][]string{{""}}
	for n := 1; n <= most; n++ {
		items[n] = append(withHeads(false, bodies[n-1]), withHeads(true, runs[n-1])...)
		if n == 1 {
			for _, b := range some {
				if b < 128 {
					items[1] = append(items[1], string([]byte{b}))
				}
			}
		}
		bodies = append(bodies, nil)
		for _, body := range bodies[n-1] {
			for _, b := range some {
				bodies[n] = append(bodies[n], body+string([]byte{b}))
			}
		}
		runs = append(runs, nil)
		for first := 1; first <= n; first++ {
			for _, item := range items[first] {
				for _, rest := range runs[n-first] {
					runs[n] = append(runs[n], item+rest)
				}
			}
		}
	}
	return items
}

// withHeads puts a head ahead of each body that has to have one: of up to 55 bytes that is one byte.
func withHeads(list bool, bodies []string) []string {
	var out []string
	for _, body := range bodies {
		if list || len(body) != 1 || body[0] >= 128 {
			out = append(out, string(writeHead(list, len(body)))+body)
		}
	}
	return out
}

// All short bytes out of some values are tried: read are those that items are written as, and no others.
func TestP4AllShortBytes(t *testing.T) {
	some := []byte{0, 1, 55, 56, 127, 128, 129, 130, 131, 183, 184, 185, 191, 192, 193, 194, 195, 247, 248, 249, 255}
	const most = 4
	written := map[string]bool{}
	for _, list := range writtenBytes(most, some) {
		for _, data := range list {
			written[data] = true
		}
	}
	runs := []string{""}
	for range most {
		var longer []string
		for _, run := range runs {
			for _, b := range some {
				data := run + string([]byte{b})
				if got := wantTheirs(t, []byte(data)); got != written[data] {
					t.Fatalf("% x: read %v, written %v", data, got, written[data])
				}
				longer = append(longer, data)
			}
		}
		runs = longer
	}
	for data := range written {
		if !wantTheirs(t, []byte(data)) {
			t.Fatalf("% x is written, but not read", data)
		}
	}
}

func TestP4AllPairsOfBytes(t *testing.T) {
	read := 0
	for a := range 256 {
		for b := range 256 {
			if wantTheirs(t, []byte{byte(a), byte(b)}) {
				read++
			}
		}
	}
	// A byte from 128 on, and a list of one of the 130 items of one byte.
	if read != 128+130 {
		t.Errorf("%d pairs are read", read)
	}
}

func TestP4PartsOfKnown(t *testing.T) {
	tr := listOf(leaf(1), listOf(leaf(2), listOf(), leaf(3)), leaf(), listOf(listOf(leaf(4))))
	parts := [][]int64{{1, 2, 6, 7}, {}, {3, 4, 5}, {}, {}, {}, {}, {8}, {9}, {}}
	for at, want := range parts {
		wantInts(t, "PartsOf", impl.PartsOf(tr.items(), int64(at)), impl.OK, want)
	}
	for _, at := range []int64{-1, -2, 10, 11, 199, 200, math.MaxInt64, math.MinInt64} {
		wantInts(t, "PartsOf at no place", impl.PartsOf(tr.items(), at), impl.ErrRange, nil)
	}
	wantInts(t, "PartsOf bytes alone", impl.PartsOf(leaf(1).items(), 0), impl.OK, nil)
	wantInts(t, "PartsOf bytes alone, behind them", impl.PartsOf(leaf(1).items(), 1), impl.ErrRange, nil)
	wantInts(t, "PartsOf bytes alone, ahead of them", impl.PartsOf(leaf(1).items(), -1), impl.ErrRange, nil)
	wantInts(t, "PartsOf an empty list", impl.PartsOf(listOf().items(), 0), impl.OK, nil)
	wantInts(t, "PartsOf an empty list, ahead of it", impl.PartsOf(listOf().items(), -1), impl.ErrRange, nil)
	wantInts(t, "PartsOf no items", impl.PartsOf(nil, 0), impl.ErrMany, nil)
	wantInts(t, "PartsOf an item with a fault", impl.PartsOf([]impl.Item{{Parent: -1}, {}}, 9), impl.ErrForm, nil)
	var all []int64
	for at := int64(1); at < 200; at++ {
		all = append(all, at)
	}
	wantInts(t, "PartsOf 200 items", impl.PartsOf(repeated(leaf(), 199).items(), 0), impl.OK, all)
	wantInts(t, "PartsOf 200 items, the last one", impl.PartsOf(repeated(leaf(), 199).items(), 199), impl.OK, nil)
	// What is too many bytes for EncodeItems still has parts.
	wantInts(t, "PartsOf long items", impl.PartsOf(repeated(leaf(fill(300)...), 199).items(), 0), impl.OK, all)
}

func TestP4EachItemIsAPartOfOne(t *testing.T) {
	for _, tr := range someTrees(300) {
		items := tr.items()
		if len(tr.bytes()) <= impl.MaxBytes {
			items = impl.DecodeItems(tr.bytes()).Items
		}
		times := make([]int, len(items))
		for at := range items {
			parts := impl.PartsOf(items, int64(at))
			if parts.Code != impl.OK || !slices.IsSorted(parts.List) || len(parts.List) > 0 && !items[at].List {
				t.Fatalf("PartsOf %d: %+v", at, parts)
			}
			for _, part := range parts.List {
				times[part]++
				if items[part].Parent != int64(at) {
					t.Errorf("a part of %d is in %d", at, items[part].Parent)
				}
			}
		}
		for at, n := range times {
			if at == 0 && n != 0 || at > 0 && n != 1 {
				t.Errorf("the item at %d is a part of %d", at, n)
			}
		}
	}
}

func wantSame(t *testing.T, call string, a []impl.Item, b []impl.Item, want bool) {
	t.Helper()
	if impl.SameItems(a, b) != want || impl.SameItems(b, a) != want {
		t.Errorf("SameItems of %s is not %v", call, want)
	}
}

func TestP4SameItems(t *testing.T) {
	wantSame(t, "nil and nil", nil, nil, true)
	wantSame(t, "nil and no items", nil, []impl.Item{}, true)
	wantSame(t, "nothing and the zero item", nil, []impl.Item{{}}, false)
	wantSame(t, "nil and empty Bytes", []impl.Item{{Parent: -1}}, []impl.Item{{Parent: -1, Bytes: []byte{}}}, true)
	wantSame(t, "a list and no bytes", []impl.Item{{List: true, Parent: -1}}, []impl.Item{{Parent: -1}}, false)
	base := listOf(leaf(1, 2), listOf(leaf(3)), leaf(), leaf(fill(300)...))
	for at := range base.items() {
		changes := []func(item *impl.Item){
			func(item *impl.Item) { item.List = !item.List },
			func(item *impl.Item) { item.Parent++ },
			func(item *impl.Item) { item.Parent += 1 << 32 },
			func(item *impl.Item) { item.Bytes = append(item.Bytes, 0) },
			func(item *impl.Item) { item.Bytes = append([]byte{0}, item.Bytes...) },
		}
		if n := len(base.items()[at].Bytes); n > 0 {
			changes = append(changes,
				func(item *impl.Item) { item.Bytes[0] ^= 1 },
				func(item *impl.Item) { item.Bytes[n-1] ^= 128 },
				func(item *impl.Item) { item.Bytes = item.Bytes[:n-1] },
			)
		}
		for _, change := range changes {
			other := base.items()
			change(&other[at])
			wantSame(t, "items that part in one field", base.items(), other, false)
		}
		wantSame(t, "items and the first ones of them", base.items(), base.items()[:at], false)
	}
	wantSame(t, "items", base.items(), base.items(), true)
	wantSame(t, "items and one more", base.items(), append(base.items(), impl.Item{}), false)
	wantSame(t, "items in another order", listOf(leaf(1), leaf(2)).items(), listOf(leaf(2), leaf(1)).items(), false)
	wantSame(t, "items in another list", listOf(listOf(leaf(1))).items(), listOf(listOf(), leaf(1)).items(), false)
	// What has a fault is compared all the same.
	faulty := []impl.Item{{List: true, Parent: 7, Bytes: fill(301)}, {Parent: math.MinInt64}}
	wantSame(t, "items with a fault", faulty, slices.Clone(faulty), true)
	wantSame(t, "items with two faults", faulty, []impl.Item{{List: true, Parent: 7, Bytes: fill(301)}, {Parent: math.MaxInt64}}, false)
	wantSame(t, "too many items", make([]impl.Item, 300), make([]impl.Item, 300), true)
	wantSame(t, "too many items and one more", make([]impl.Item, 300), make([]impl.Item, 301), false)
}

func TestP4AllTreesDiffer(t *testing.T) {
	trees := someTrees(60)
	for i, a := range trees {
		for j, b := range trees {
			wantSame(t, "two trees", a.items(), b.items(), bytes.Equal(trees[i].bytes(), trees[j].bytes()))
		}
	}
}
