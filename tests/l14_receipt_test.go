package tests

import (
	"bytes"
	"math"
	"math/big"
	"math/rand/v2"
	"slices"
	"strconv"
	"testing"

	"loop.example/g00383/impl"
)

const mostReceipts = 10
const mostReceiptBytes = 60
const topIndex = 9999

// plainReceipts have no fault, and no two are the same: short ones, long ones and some between.
func plainReceipts(count int) [][]byte {
	var list [][]byte
	for i := range count {
		list = append(list, append([]byte{byte(i + 100)}, fill(23*i%60)...))
	}
	return list
}

// evenReceipts all have so many bytes.
func evenReceipts(count int, size int) [][]byte {
	var list [][]byte
	for i := range count {
		list = append(list, append(fill(size-1), byte(i+1)))
	}
	return list
}

func withReceipt(list [][]byte, at int, receipt []byte) [][]byte {
	changed := slices.Clone(list)
	changed[at] = receipt
	return changed
}

// receiptLists are of every kind that the chapter tells apart, without a fault.
func receiptLists() [][][]byte {
	lists := [][][]byte{nil, {}, {{0}}, {{128}}, {fill(60)}, {{1}, {1}}, slices.Repeat([][]byte{{7}}, 10), slices.Repeat([][]byte{fill(60)}, 10)}
	for count := 1; count <= mostReceipts; count++ {
		lists = append(lists, plainReceipts(count), evenReceipts(count, 1), evenReceipts(count, 29), evenReceipts(count, 60))
	}
	return lists
}

func someReceipts(r *rand.Rand) [][]byte {
	var list [][]byte
	most := []int{1, 8, 30, 60}[r.IntN(4)]
	for range r.IntN(mostReceipts + 1) {
		list = append(list, randomBytes(r, 1+r.IntN(most)))
	}
	return list
}

// receiptsFaultAs is what the chapter says that ReceiptsFault is.
func receiptsFaultAs(list [][]byte) int64 {
	wrong := func(receipt []byte) bool { return len(receipt) == 0 || len(receipt) > mostReceiptBytes }
	switch {
	case len(list) > mostReceipts:
		return impl.ErrMany
	case slices.ContainsFunc(list, wrong):
		return impl.ErrForm
	}
	return impl.OK
}

func isIndex(index int64) bool {
	return index >= 0 && index <= topIndex
}

// receiptKeyAs is what the chapter says that the bytes of a key are.
func receiptKeyAs(index int64) []byte {
	return leaf(big.NewInt(index).Bytes()...).bytes()
}

func receiptPairsAs(list [][]byte) []impl.Pair {
	var pairs []impl.Pair
	for place, receipt := range list {
		pairs = append(pairs, impl.Pair{Key: receiptKeyAs(int64(place)), Value: receipt})
	}
	return pairs
}

func receiptsRootAs(list [][]byte) []byte {
	return rootAs(receiptPairsAs(list))
}

func receiptProofAs(list [][]byte, index int64) [][]byte {
	return proofAs(receiptPairsAs(list), receiptKeyAs(index))
}

// receiptShownAs is what a right proof shows.
func receiptShownAs(list [][]byte, index int64) impl.TrieResult {
	if index < int64(len(list)) {
		return foundAs(list[index]...)
	}
	return impl.TrieResult{}
}

// checkReceiptAs is what the chapter says that CheckReceipt is.
func checkReceiptAs(root []byte, index int64, nodes [][]byte) impl.TrieResult {
	if !isIndex(index) {
		return impl.TrieResult{Code: impl.ErrRange}
	}
	return checkAs(root, receiptKeyAs(index), nodes)
}

// proveReceiptAs is what the chapter says that ProveReceipt is.
func proveReceiptAs(list [][]byte, index int64) impl.ProofResult {
	if fault := receiptsFaultAs(list); fault != impl.OK {
		return impl.ProofResult{Code: fault}
	}
	if !isIndex(index) {
		return impl.ProofResult{Code: impl.ErrRange}
	}
	return impl.ProofResult{Nodes: receiptProofAs(list, index)}
}

func insideIndexes() []int64 {
	return []int64{0, 1, 2, 8, 9, 10, 11, 15, 16, 17, 126, 127, 128, 129, 255, 256, 257, 300, 384, 1000, 4096, 9998, 9999}
}

func outsideIndexes() []int64 {
	return []int64{math.MinInt64, math.MinInt64 + 1, -1 << 53, -1 << 32, -9999, -256, -2, -1, 10000, 10001, 16384, 1 << 16, 1 << 32, 1 << 50, 1<<50 + 1, 1<<53 + 1, math.MaxInt64 - 1, math.MaxInt64}
}

// wantReceiptsFault asks the others too: with a fault they tell it alone, whatever the index is.
func wantReceiptsFault(t *testing.T, call string, list [][]byte, code int64) {
	t.Helper()
	if told := receiptsFaultAs(list); told != code {
		t.Fatalf("%s: by the chapter it is %d, the test wants %d", call, told, code)
	}
	if got := impl.ReceiptsFault(list); got != code {
		t.Errorf("ReceiptsFault of %s: %d, want %d", call, got, code)
	}
	var root []byte
	if code == impl.OK {
		root = receiptsRootAs(list)
	}
	wantBytes(t, "ReceiptsRoot of "+call, impl.ReceiptsRoot(list), code, root)
	for _, index := range []int64{0, int64(len(list)) - 1, int64(len(list)), -1, 10000, math.MinInt64, math.MaxInt64} {
		want := proveReceiptAs(list, index)
		wantProof(t, "ProveReceipt of "+call+" at "+strconv.FormatInt(index, 10), impl.ProveReceipt(list, index), want.Code, want.Nodes)
	}
}

func TestP15Constants(t *testing.T) {
	if impl.MaxReceipts != mostReceipts {
		t.Errorf("MaxReceipts is %d", impl.MaxReceipts)
	}
}

func TestP15ReceiptsFaultCounts(t *testing.T) {
	wantReceiptsFault(t, "nil", nil, impl.OK)
	wantReceiptsFault(t, "no receipts", [][]byte{}, impl.OK)
	for count := 1; count <= mostReceipts; count++ {
		wantReceiptsFault(t, "so many receipts", plainReceipts(count), impl.OK)
	}
	for _, count := range []int{11, 12, 13, 20, 255, 256, 257, 266, 1 << 16} {
		wantReceiptsFault(t, "too many receipts", plainReceipts(count), impl.ErrMany)
	}
}

func TestP15ReceiptsFaultForms(t *testing.T) {
	for _, count := range []int{1, 2, 3, 9, 10} {
		base := plainReceipts(count)
		for at := range base {
			for _, n := range []int{1, 2, 31, 32, 55, 56, 59, 60} {
				wantReceiptsFault(t, "a receipt of so many bytes", withReceipt(base, at, fill(n)), impl.OK)
			}
			wantReceiptsFault(t, "a receipt that is nil", withReceipt(base, at, nil), impl.ErrForm)
			for _, n := range []int{0, 61, 62, 120, 255, 256, 257, 300, 316, 1200, 1201, 1 << 16, 1<<16 + 1} {
				wantReceiptsFault(t, "a receipt of another length", withReceipt(base, at, fill(n)), impl.ErrForm)
			}
			for n := range 61 {
				wantReceiptsFault(t, "a receipt of zeros", withReceipt(base, at, make([]byte, n)), map[bool]int64{true: impl.ErrForm, false: impl.OK}[n == 0])
			}
		}
	}
	wantReceiptsFault(t, "none with a byte", make([][]byte, 10), impl.ErrForm)
}

func TestP15ReceiptsFaultSameTwice(t *testing.T) {
	base := plainReceipts(mostReceipts)
	for first := range base {
		for second := first + 1; second < len(base); second++ {
			wantReceiptsFault(t, "a receipt twice", withReceipt(base, second, bytes.Clone(base[first])), impl.OK)
		}
	}
	wantReceiptsFault(t, "one receipt ten times", slices.Repeat([][]byte{fill(40)}, 10), impl.OK)
	wantReceiptsFault(t, "receipts that begin others", [][]byte{{1}, {1, 1}, {1, 1, 1}, {1, 1, 1, 0}}, impl.OK)
}

func TestP15ReceiptsFaultTwoAtOnce(t *testing.T) {
	for _, count := range []int{11, 12, 300} {
		many := plainReceipts(count)
		for _, at := range []int{0, 1, 9, 10, count - 1} {
			wantReceiptsFault(t, "too many, and one without bytes", withReceipt(many, at, nil), impl.ErrMany)
			wantReceiptsFault(t, "too many, and one too long", withReceipt(many, at, fill(61)), impl.ErrMany)
		}
	}
	wantReceiptsFault(t, "eleven without bytes", make([][]byte, 11), impl.ErrMany)
	base := plainReceipts(mostReceipts)
	wantReceiptsFault(t, "one without bytes and one too long", withReceipt(withReceipt(base, 0, nil), 9, fill(61)), impl.ErrForm)
}

func TestP15ReceiptKeys(t *testing.T) {
	known := map[int64]string{
		0: "80", 1: "01", 2: "02", 9: "09", 10: "0a", 126: "7e", 127: "7f", 128: "8180", 129: "8181", 254: "81fe", 255: "81ff",
		256: "820100", 257: "820101", 300: "82012c", 9998: "82270e", 9999: "82270f",
	}
	for index, digits := range known {
		wantBytes(t, "ReceiptKey of "+strconv.FormatInt(index, 10), impl.ReceiptKey(index), impl.OK, unhex(digits))
	}
	wantBytes(t, "ReceiptKey of 0, as an item without bytes", impl.ReceiptKey(0), impl.OK, impl.EncodeItems([]impl.Item{{Parent: -1}}).Bytes)
	seen := map[string]int64{}
	for index := range int64(topIndex + 1) {
		got := impl.ReceiptKey(index)
		wantBytes(t, "ReceiptKey", got, impl.OK, receiptKeyAs(index))
		read := impl.DecodeItems(got.Bytes)
		if read.Code != impl.OK || len(read.Items) != 1 || impl.BytesShort(read.Items[0].Bytes) != (impl.IntResult{Value: index}) {
			t.Errorf("the key of %d is read as %+v", index, read)
		}
		if other, taken := seen[string(got.Bytes)]; taken {
			t.Errorf("%d and %d have one key", other, index)
		}
		seen[string(got.Bytes)] = index
	}
	for _, index := range outsideIndexes() {
		wantBytes(t, "ReceiptKey of "+strconv.FormatInt(index, 10), impl.ReceiptKey(index), impl.ErrRange, nil)
	}
}

// wantReceiptsNode: the root is the hash of a node that is written out.
func wantReceiptsNode(t *testing.T, call string, node tree, list ...[]byte) {
	t.Helper()
	wantBytes(t, "ReceiptsRoot of "+call, impl.ReceiptsRoot(list), impl.OK, hashOfTree(node))
}

func TestP15ReceiptsRootKnown(t *testing.T) {
	none := unhex("56e81f171bcc55a6ff8345e692c0f86e5b48e01b996cadc001622fb5e363b421")
	wantBytes(t, "ReceiptsRoot of nil", impl.ReceiptsRoot(nil), impl.OK, none)
	wantBytes(t, "ReceiptsRoot of no receipts", impl.ReceiptsRoot([][]byte{}), impl.OK, none)
	wantReceiptsNode(t, "one", endOf("80", 5), []byte{5})
	wantReceiptsNode(t, "a long one", endOf("80", fill(60)...), fill(60))
	wantReceiptsNode(t, "two", branchOf(nil, map[int]tree{8: endOf("0", 5), 0: endOf("1", 6)}), []byte{5}, []byte{6})
	long := leaf(hashOfTree(endOf("1", fill(60)...))...)
	wantReceiptsNode(t, "two, the second one long", branchOf(nil, map[int]tree{8: endOf("0", 5), 0: long}), []byte{5}, fill(60))
	inner := branchOf(nil, map[int]tree{1: endOf("", 6), 2: endOf("", 7)})
	wantReceiptsNode(t, "three", branchOf(nil, map[int]tree{8: endOf("0", 5), 0: inner}), []byte{5}, []byte{6}, []byte{7})
	ends, list := map[int]tree{}, [][]byte{{1}}
	for place := 1; place < mostReceipts; place++ {
		ends[place] = endOf("", byte(place+1))
		list = append(list, []byte{byte(place + 1)})
	}
	ten := leaf(hashOfTree(branchOf(nil, ends))...)
	wantReceiptsNode(t, "ten", branchOf(nil, map[int]tree{8: endOf("0", 1), 0: ten}), list...)
}

func TestP15ReceiptsRootIsThatOfPairs(t *testing.T) {
	r := rand.New(rand.NewPCG(14, 1))
	lists := receiptLists()
	for range 500 {
		lists = append(lists, someReceipts(r))
	}
	for _, list := range lists {
		var pairs []impl.Pair
		for place, receipt := range list {
			pairs = append(pairs, impl.Pair{Key: impl.ReceiptKey(int64(place)).Bytes, Value: receipt})
		}
		got := impl.ReceiptsRoot(list)
		wantBytes(t, "ReceiptsRoot", got, impl.OK, impl.RootOf(pairs).Bytes)
		wantBytes(t, "ReceiptsRoot, by the chapter", got, impl.OK, receiptsRootAs(list))
	}
}

func TestP15ReceiptsRootHangsOnTheOrder(t *testing.T) {
	for _, count := range []int{2, 3, 9, 10} {
		base := plainReceipts(count)
		root := impl.ReceiptsRoot(base).Bytes
		for first := range base {
			for second := first + 1; second < count; second++ {
				swapped := withReceipt(withReceipt(base, first, base[second]), second, base[first])
				if bytes.Equal(impl.ReceiptsRoot(swapped).Bytes, root) {
					t.Errorf("of %d receipts those at %d and %d can be changed for each other", count, first, second)
				}
			}
		}
	}
}

func TestP15ReceiptsRootHangsOnAll(t *testing.T) {
	for _, list := range receiptLists() {
		root := impl.ReceiptsRoot(list).Bytes
		var others [][][]byte
		for at, receipt := range list {
			others = append(others, withReceipt(list, at, flipped(receipt, 0)), withReceipt(list, at, flipped(receipt, 8*len(receipt)-1)), list[:at])
			if len(receipt) < mostReceiptBytes {
				others = append(others, withReceipt(list, at, append(bytes.Clone(receipt), 0)))
			}
		}
		if len(list) < mostReceipts {
			others = append(others, append(slices.Clone(list), []byte{0}))
		}
		for _, other := range others {
			if got := impl.ReceiptsRoot(other); got.Code != impl.OK || bytes.Equal(got.Bytes, root) {
				t.Errorf("%x and %x: code %d, or one root", list, other, got.Code)
			}
		}
	}
}

// wantReceiptShown: the proof is the one that the chapter tells, and shows the receipt, or that there is none.
func wantReceiptShown(t *testing.T, list [][]byte, index int64) {
	t.Helper()
	call := strconv.Itoa(len(list)) + " receipts at " + strconv.FormatInt(index, 10)
	got := impl.ProveReceipt(list, index)
	wantProof(t, "ProveReceipt of "+call, got, impl.OK, receiptProofAs(list, index))
	wantProof(t, "ProveReceipt of "+call+", as of pairs", got, impl.OK, impl.ProveKey(receiptPairsAs(list), impl.ReceiptKey(index).Bytes).Nodes)
	wantTrie(t, "CheckReceipt of "+call, impl.CheckReceipt(impl.ReceiptsRoot(list).Bytes, index, got.Nodes), receiptShownAs(list, index))
}

func TestP15EachReceiptIsShown(t *testing.T) {
	for _, list := range receiptLists() {
		for index := range int64(len(list)) {
			wantReceiptShown(t, list, index)
		}
	}
}

func TestP15NoneBehindTheLastOneIs(t *testing.T) {
	for _, list := range receiptLists() {
		wantReceiptShown(t, list, int64(len(list)))
		for _, index := range insideIndexes() {
			wantReceiptShown(t, list, index)
		}
	}
	for _, list := range [][][]byte{nil, {{5}}, plainReceipts(2), plainReceipts(10)} {
		root := impl.ReceiptsRoot(list).Bytes
		for index := int64(len(list)); index <= topIndex; index++ {
			got := impl.CheckReceipt(root, index, impl.ProveReceipt(list, index).Nodes)
			wantTrie(t, "CheckReceipt behind the last one", got, impl.TrieResult{})
		}
	}
}

func TestP15ProveReceiptKnown(t *testing.T) {
	one, two := endOf("80", 5), branchOf(nil, map[int]tree{8: endOf("0", 5), 0: endOf("1", 6)})
	wantProof(t, "ProveReceipt of none", impl.ProveReceipt(nil, 0), impl.OK, nil)
	wantProof(t, "ProveReceipt of none", impl.ProveReceipt([][]byte{}, 9999), impl.OK, nil)
	wantProof(t, "ProveReceipt of one", impl.ProveReceipt([][]byte{{5}}, 0), impl.OK, [][]byte{one.bytes()})
	wantProof(t, "ProveReceipt behind one", impl.ProveReceipt([][]byte{{5}}, 1), impl.OK, [][]byte{one.bytes()})
	wantProof(t, "ProveReceipt far behind one", impl.ProveReceipt([][]byte{{5}}, 9999), impl.OK, [][]byte{one.bytes()})
	for _, index := range []int64{0, 1, 2, 9999} {
		wantProof(t, "ProveReceipt of two", impl.ProveReceipt([][]byte{{5}, {6}}, index), impl.OK, [][]byte{two.bytes()})
	}
	first, second := endOf("0", fill(60)...), endOf("1", fill(59)...)
	both := branchOf(nil, map[int]tree{8: leaf(hashOfTree(first)...), 0: leaf(hashOfTree(second)...)})
	list := [][]byte{fill(60), fill(59)}
	wantProof(t, "ProveReceipt of the receipt 0", impl.ProveReceipt(list, 0), impl.OK, [][]byte{both.bytes(), first.bytes()})
	wantProof(t, "ProveReceipt of the last one", impl.ProveReceipt(list, 1), impl.OK, [][]byte{both.bytes(), second.bytes()})
	wantProof(t, "ProveReceipt right behind it", impl.ProveReceipt(list, 2), impl.OK, [][]byte{both.bytes(), second.bytes()})
	// Its key begins with the half byte that the key of the receipt 0 begins with.
	wantProof(t, "ProveReceipt of 9999", impl.ProveReceipt(list, 9999), impl.OK, [][]byte{both.bytes(), first.bytes()})
	wantProof(t, "ProveReceipt of 16", impl.ProveReceipt(list, 16), impl.OK, [][]byte{both.bytes()})
}

func TestP15ProveReceiptCodes(t *testing.T) {
	for _, index := range outsideIndexes() {
		for _, list := range receiptLists() {
			wantProof(t, "ProveReceipt outside", impl.ProveReceipt(list, index), impl.ErrRange, nil)
		}
		wantProof(t, "ProveReceipt of too many, outside", impl.ProveReceipt(plainReceipts(11), index), impl.ErrMany, nil)
		wantProof(t, "ProveReceipt of no receipt, outside", impl.ProveReceipt([][]byte{nil}, index), impl.ErrForm, nil)
		wantProof(t, "ProveReceipt of a long receipt, outside", impl.ProveReceipt([][]byte{{1}, fill(61)}, index), impl.ErrForm, nil)
	}
	for _, index := range insideIndexes() {
		wantProof(t, "ProveReceipt of too many", impl.ProveReceipt(plainReceipts(11), index), impl.ErrMany, nil)
		wantProof(t, "ProveReceipt of no receipt", impl.ProveReceipt([][]byte{{1}, nil}, index), impl.ErrForm, nil)
		wantProof(t, "ProveReceipt of a long receipt", impl.ProveReceipt([][]byte{fill(61), {1}}, index), impl.ErrForm, nil)
	}
}

func TestP15ReceiptsOfManyAreShown(t *testing.T) {
	r := rand.New(rand.NewPCG(14, 2))
	for range 400 {
		list := someReceipts(r)
		for index := range int64(len(list) + 1) {
			wantReceiptShown(t, list, index)
		}
		wantReceiptShown(t, list, r.Int64N(topIndex+1))
	}
}
