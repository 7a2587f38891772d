package tests

import (
	"math"
	"math/rand/v2"
	"slices"
	"strconv"
	"testing"

	"loop.example/g00383/impl"
)

// wantReceiptChecked holds CheckReceipt against what the test wants, and that against the chapter.
func wantReceiptChecked(t *testing.T, call string, root []byte, index int64, nodes [][]byte, want impl.TrieResult) {
	t.Helper()
	call += " at " + strconv.FormatInt(index, 10)
	if told := checkReceiptAs(root, index, nodes); !sameTrie(told, want) {
		t.Fatalf("%s: by the chapter it is %+v, the test wants %+v", call, told, want)
	}
	wantTrie(t, "CheckReceipt of "+call, impl.CheckReceipt(root, index, nodes), want)
}

func wantReceiptCode(t *testing.T, call string, root []byte, index int64, nodes [][]byte, code int64) {
	t.Helper()
	wantReceiptChecked(t, call, root, index, nodes, impl.TrieResult{Code: code})
}

func TestP15CheckReceiptRoots(t *testing.T) {
	for _, list := range [][][]byte{nil, {{5}}, plainReceipts(3), plainReceipts(10)} {
		root := receiptsRootAs(list)
		for _, index := range insideIndexes() {
			nodes := receiptProofAs(list, index)
			wantReceiptChecked(t, "a root of 32 bytes", root, index, nodes, receiptShownAs(list, index))
			for _, n := range []int{0, 1, 31, 33, 64, 288, 1200} {
				wrong := append(slices.Clone(root), make([]byte, 1200)...)[:n]
				wantReceiptCode(t, "a root of another length", wrong, index, nodes, impl.ErrForm)
				wantReceiptCode(t, "a root of another length, no nodes", wrong, index, nil, impl.ErrForm)
				wantReceiptCode(t, "a root of another length, too many nodes", wrong, index, make([][]byte, 15), impl.ErrForm)
			}
			wantReceiptCode(t, "nil as a root", nil, index, nodes, impl.ErrForm)
		}
	}
}

// A number that is no index is told ahead of all else.
func TestP15CheckReceiptIndexes(t *testing.T) {
	list := plainReceipts(10)
	root, nodes := receiptsRootAs(list), receiptProofAs(list, 3)
	for _, index := range outsideIndexes() {
		wantReceiptCode(t, "a right proof", root, index, nodes, impl.ErrRange)
		wantReceiptCode(t, "no nodes", root, index, nil, impl.ErrRange)
		wantReceiptCode(t, "the root of no receipts", rootAs(nil), index, nil, impl.ErrRange)
		wantReceiptCode(t, "a short root", root[:31], index, nodes, impl.ErrRange)
		wantReceiptCode(t, "a long root", append(slices.Clone(root), 0), index, nodes, impl.ErrRange)
		wantReceiptCode(t, "no root", nil, index, nil, impl.ErrRange)
		wantReceiptCode(t, "too many nodes", root, index, make([][]byte, 15), impl.ErrRange)
		wantReceiptCode(t, "too long a node", root, index, [][]byte{fill(601)}, impl.ErrRange)
		wantReceiptCode(t, "another root", flipped(root, 0), index, nodes, impl.ErrRange)
		wantReceiptCode(t, "a node too few", root, index, nodes[:1], impl.ErrRange)
		wantReceiptCode(t, "a node too many", root, index, append(slices.Clone(nodes), nodes[0]), impl.ErrRange)
		wantReceiptCode(t, "no node at all", impl.KeccakOf([]byte{0x80}).Bytes, index, [][]byte{{0x80}}, impl.ErrRange)
	}
	// What would be the same number in fewer bits is none either.
	for _, index := range []int64{3 + 1<<16, 3 + 1<<32, 3 - 1<<32, math.MinInt64 + 3} {
		wantReceiptCode(t, "a right proof of another number", root, index, nodes, impl.ErrRange)
	}
}

func TestP15CheckReceiptOfNone(t *testing.T) {
	for _, index := range insideIndexes() {
		wantReceiptChecked(t, "no receipts", rootAs(nil), index, nil, impl.TrieResult{})
		wantReceiptChecked(t, "no receipts", rootAs(nil), index, [][]byte{}, impl.TrieResult{})
		wantReceiptCode(t, "no receipts, and what their root is the hash of", rootAs(nil), index, [][]byte{{0x80}}, impl.ErrText)
		wantReceiptCode(t, "no receipts, and a node", rootAs(nil), index, [][]byte{endOf("80", 5).bytes()}, impl.ErrSign)
		wantReceiptCode(t, "no nodes, and a root of one", receiptsRootAs([][]byte{{5}}), index, nil, impl.ErrNone)
		wantReceiptCode(t, "no nodes, and a root of ten", receiptsRootAs(plainReceipts(10)), index, nil, impl.ErrNone)
		wantReceiptCode(t, "no nodes, and a root of zeros", make([]byte, 32), index, nil, impl.ErrNone)
	}
}

// A proof of another index shows what is so, or tells a code.
func TestP15CheckReceiptWithAProofOfAnother(t *testing.T) {
	told := map[int64]bool{}
	for _, list := range receiptLists() {
		root := impl.ReceiptsRoot(list).Bytes
		for _, made := range insideIndexes() {
			nodes := impl.ProveReceipt(list, made).Nodes
			for _, asked := range insideIndexes() {
				want := receiptShownAs(list, asked)
				if code := checkReceiptAs(root, asked, nodes).Code; code != impl.OK {
					want = impl.TrieResult{Code: code}
				}
				wantReceiptChecked(t, "a proof of "+strconv.FormatInt(made, 10), root, asked, nodes, want)
				told[want.Code] = true
			}
		}
	}
	for _, code := range []int64{impl.OK, impl.ErrNone, impl.ErrMany, impl.ErrSign} {
		if !told[code] {
			t.Errorf("the code %d is never told", code)
		}
	}
	list := evenReceipts(10, 60)
	root := receiptsRootAs(list)
	wantReceiptCode(t, "the proof of 4", root, 5, receiptProofAs(list, 4), impl.ErrSign)
	wantReceiptCode(t, "the proof of 4", root, 0, receiptProofAs(list, 4), impl.ErrSign)
	wantReceiptCode(t, "the proof of 0", root, 4, receiptProofAs(list, 0), impl.ErrSign)
	wantReceiptCode(t, "the proof of 10", root, 9, receiptProofAs(list, 10), impl.ErrNone)
	wantReceiptCode(t, "the proof of 9", root, 10, receiptProofAs(list, 9), impl.ErrMany)
	wantReceiptCode(t, "the proof of 9", root, 16, receiptProofAs(list, 9), impl.ErrMany)
	wantReceiptChecked(t, "the proof of 0, whose way it shares", root, 9999, receiptProofAs(list, 0), impl.TrieResult{})
}

// Nor does a proof of other receipts show anything.
func TestP15CheckReceiptWithAnotherRoot(t *testing.T) {
	list := plainReceipts(10)
	for at := range list {
		other := withReceipt(list, at, fill(17))
		for index := range int64(12) {
			nodes := receiptProofAs(list, index)
			wantReceiptCode(t, "the root of others", receiptsRootAs(other), index, nodes, impl.ErrSign)
			wantReceiptCode(t, "the root of fewer", receiptsRootAs(list[:at]), index, nodes, impl.ErrSign)
		}
	}
	root, nodes := receiptsRootAs(list), receiptProofAs(list, 9)
	for bit := range 256 {
		wantReceiptCode(t, "a root changed by a bit", flipped(root, bit), 9, nodes, impl.ErrSign)
	}
}

func TestP15AProofOfAReceiptIsNeededWhole(t *testing.T) {
	for _, list := range receiptLists() {
		root := receiptsRootAs(list)
		for _, index := range []int64{0, 1, 5, 9, 10, 128, 9999} {
			nodes := impl.ProveReceipt(list, index).Nodes
			for _, more := range [][]byte{nil, {0x80}, {0xc0}, endOf("80", 5).bytes(), fill(600)} {
				if len(nodes) > 0 {
					wantReceiptCode(t, "one node too many", root, index, append(slices.Clone(nodes), more), impl.ErrMany)
				}
			}
			for at := range nodes {
				wantReceiptCode(t, "nodes too few", root, index, nodes[:at], impl.ErrNone)
				if at+1 < len(nodes) {
					wantReceiptCode(t, "a node gone", root, index, slices.Delete(slices.Clone(nodes), at, at+1), impl.ErrSign)
					swapped := slices.Clone(nodes)
					swapped[at], swapped[at+1] = swapped[at+1], swapped[at]
					wantReceiptCode(t, "two nodes in the other order", root, index, swapped, impl.ErrSign)
				}
				wantReceiptCode(t, "a node that ends early", root, index, withReceipt(nodes, at, nodes[at][:len(nodes[at])-1]), impl.ErrSign)
				wantReceiptCode(t, "a node with a byte behind", root, index, withReceipt(nodes, at, append(slices.Clone(nodes[at]), 0)), impl.ErrSign)
			}
		}
	}
}

func TestP15CheckReceiptNodesChangedByABit(t *testing.T) {
	for _, list := range [][][]byte{{{5}}, plainReceipts(2), evenReceipts(10, 60)} {
		root := receiptsRootAs(list)
		for _, index := range []int64{0, int64(len(list)) - 1, int64(len(list)), 9999} {
			nodes := impl.ProveReceipt(list, index).Nodes
			for at := range nodes {
				for bit := range 8 * len(nodes[at]) {
					changed := withReceipt(nodes, at, flipped(nodes[at], bit))
					wantTrie(t, "CheckReceipt with a node changed by a bit", impl.CheckReceipt(root, index, changed), impl.TrieResult{Code: impl.ErrSign})
				}
			}
		}
	}
}

func TestP15CheckReceiptTooManyNodes(t *testing.T) {
	list := evenReceipts(10, 60)
	root, nodes := receiptsRootAs(list), receiptProofAs(list, 7)
	for _, count := range []int{14, 15, 16, 256, 1 << 16} {
		many := append(slices.Clone(nodes), make([][]byte, count-len(nodes))...)
		wantReceiptCode(t, "so many nodes", root, 7, many, impl.ErrMany)
		code := int64(impl.ErrMany)
		if count == 14 {
			code = impl.ErrSign
		}
		wantReceiptCode(t, "so many nodes of another root", flipped(root, 9), 7, many, code)
	}
	for _, size := range []int{601, 602, 1200, 1201, 1 << 16} {
		wantReceiptCode(t, "too long a node", root, 7, [][]byte{fill(size)}, impl.ErrMany)
		wantReceiptCode(t, "too long a node behind others", root, 7, append(slices.Clone(nodes), fill(size)), impl.ErrMany)
	}
	wantReceiptCode(t, "a node of 600 bytes", root, 7, [][]byte{fill(600)}, impl.ErrSign)
	node := sizedBranch(600)
	node.parts[8] = endOf("0", 7)
	wantReceiptCode(t, "a node of more than 600 bytes that is right", hashOfTree(node), 0, [][]byte{node.bytes()}, impl.ErrMany)
}

// What has the hash, but is no node on the way of the key.
func TestP15CheckReceiptNodesThatAreNone(t *testing.T) {
	for _, data := range [][]byte{nil, {0x80}, {0xc0}, {5}, {0xff}, fill(32), fill(600), repeated(leaf(1), 3).bytes(), repeated(leaf(), 16).bytes(), repeated(leaf(), 18).bytes(), endOf("80").bytes(), pathTo("80", leaf(7)).bytes()} {
		root, nodes := linkedTo(data)
		for _, index := range []int64{0, 1, 9999} {
			wantReceiptCode(t, "no node", root, index, nodes, impl.ErrText)
		}
		root, nodes = linkedTo(data, byBranch(8))
		wantReceiptCode(t, "no node further on", root, 0, nodes, impl.ErrText)
		wantReceiptCode(t, "no node elsewhere", root, 1, nodes, impl.ErrMany)
		wantReceiptChecked(t, "no node elsewhere, not told", root, 1, nodes[:1], impl.TrieResult{})
		root, nodes = linkedTo(data, byBranch(0), byBranch(1))
		wantReceiptCode(t, "no node further on", root, 1, nodes, impl.ErrText)
		wantReceiptChecked(t, "no node elsewhere, not told", root, 2, nodes[:2], impl.TrieResult{})
	}
}

// A trie may hold what no receipts make: what is shown is what CheckKey shows.
func TestP15CheckReceiptOfOtherTries(t *testing.T) {
	pairs := []impl.Pair{digitPair("80", 1), digitPair("8180", 2), digitPair("820100", 3), digitPair("82270f", 4), digitPair("00", 5), digitPair("", 6)}
	root := rootAs(pairs)
	want := map[int64]byte{0: 1, 128: 2, 256: 3, 9999: 4}
	for _, index := range append(insideIndexes(), outsideIndexes()...) {
		key := impl.ReceiptKey(index)
		if key.Code != impl.OK {
			wantReceiptCode(t, "another trie", root, index, proofAs(pairs, nil), impl.ErrRange)
			continue
		}
		shown := impl.TrieResult{}
		if value, there := want[index]; there {
			shown = foundAs(value)
		}
		wantReceiptChecked(t, "another trie", root, index, proofAs(pairs, key.Bytes), shown)
	}
}

// someShowing is a proof of some receipt, right or changed in one way or another.
func someShowing(r *rand.Rand, list [][]byte, index int64) ([]byte, [][]byte) {
	root, nodes := receiptsRootAs(list), receiptProofAs(list, index)
	switch r.IntN(7) {
	case 0:
		return flipped(root, r.IntN(256)), nodes
	case 1:
		return root, nodes[:r.IntN(len(nodes)+1)]
	case 2:
		return root, append(nodes, randomBytes(r, r.IntN(40)))
	case 3:
		return root[:r.IntN(33)], nodes
	case 4:
		return root, receiptProofAs(list, int64(r.IntN(12)))
	case 5:
		if len(nodes) > 0 {
			at := r.IntN(len(nodes))
			return root, withReceipt(nodes, at, flipped(nodes[at], r.IntN(8*len(nodes[at]))))
		}
	}
	return root, nodes
}

func TestP15CheckReceiptOfMany(t *testing.T) {
	r := rand.New(rand.NewPCG(14, 3))
	told := map[int64]int{}
	for range 4000 {
		list := someReceipts(r)
		index := r.Int64N(13)
		if r.IntN(8) == 0 {
			index = r.Int64N(20002) - 5000
		}
		root, nodes := someShowing(r, list, max(0, index))
		want := checkReceiptAs(root, index, nodes)
		wantReceiptChecked(t, "some receipts", root, index, nodes, want)
		told[want.Code]++
		if want.Code == impl.OK && want.Found && (index >= int64(len(list)) || !slices.Equal(want.Value, list[index])) {
			t.Errorf("%x is shown at %d of %x", want.Value, index, list)
		}
	}
	for _, code := range []int64{impl.OK, impl.ErrForm, impl.ErrMany, impl.ErrRange, impl.ErrNone, impl.ErrSign} {
		if told[code] < 10 {
			t.Errorf("the code %d is told %d times", code, told[code])
		}
	}
}
