package tests

import (
	"bytes"
	"reflect"
	"slices"
	"testing"

	"loop.example/g00383/impl"
)

// receiptsArguments are of every kind that chapter 14 tells apart, with and without a fault.
func receiptsArguments() [][][]byte {
	lists := [][][]byte{{nil}, {{}}, {fill(61)}, {{1}, nil}, {nil, {1}}, {{1}, fill(1 << 16)}, make([][]byte, 10), make([][]byte, 11), make([][]byte, 1<<16), plainReceipts(11), plainReceipts(300)}
	return append(lists, receiptLists()...)
}

func indexArguments() []int64 {
	return append(insideIndexes(), outsideIndexes()...)
}

// asking is what CheckReceipt is asked with.
type asking struct {
	root  []byte
	index int64
	nodes [][]byte
}

func askings() []asking {
	list := []asking{
		{}, {index: -1}, {root: rootAs(nil)}, {root: rootAs(nil), index: 9999}, {root: rootAs(nil), index: 10000}, {root: rootAs(nil), nodes: [][]byte{{0x80}}}, {root: rootAs(nil), nodes: [][]byte{nil}},
		{root: fill(31)}, {root: fill(33)}, {root: fill(1 << 16)}, {root: fill(32), nodes: make([][]byte, 14)}, {root: fill(32), nodes: make([][]byte, 15)}, {root: fill(32), nodes: make([][]byte, 1<<16)},
		{root: fill(32), nodes: [][]byte{fill(600)}}, {root: fill(32), nodes: [][]byte{fill(601)}}, {root: fill(32), nodes: [][]byte{fill(1 << 16)}},
	}
	for _, receipts := range receiptLists() {
		root := receiptsRootAs(receipts)
		for _, index := range []int64{0, 1, 9, 10, 128, 9999} {
			nodes := receiptProofAs(receipts, index)
			list = append(list, asking{root, index, nodes}, asking{root, index, append(slices.Clone(nodes), fill(3))}, asking{root, index, nodes[:max(0, len(nodes)-1)]}, asking{root, index + 1, nodes}, asking{root, -index, nodes})
		}
	}
	return list
}

type receiptAnswers struct {
	Fault []int64
	Key   []impl.BytesResult
	Root  []impl.BytesResult
	Proof []impl.ProofResult
	Check []impl.TrieResult
}

// askReceipts calls each function of chapter 14 with each argument, and each list with each index.
func askReceipts(lists [][][]byte, indexes []int64, asked []asking) receiptAnswers {
	var all receiptAnswers
	for _, list := range lists {
		all.Fault = append(all.Fault, impl.ReceiptsFault(list))
		all.Root = append(all.Root, impl.ReceiptsRoot(list))
		for _, index := range indexes {
			all.Proof = append(all.Proof, impl.ProveReceipt(list, index))
		}
	}
	for _, index := range indexes {
		all.Key = append(all.Key, impl.ReceiptKey(index))
	}
	for _, a := range asked {
		all.Check = append(all.Check, impl.CheckReceipt(a.root, a.index, a.nodes))
	}
	return all
}

func TestP1ReceiptsAnswerAtEveryArgument(t *testing.T) {
	lists, indexes, asked := receiptsArguments(), indexArguments(), askings()
	all := askReceipts(lists, indexes, asked)
	for i, list := range lists {
		fault := receiptsFaultAs(list)
		if all.Fault[i] != fault || all.Root[i].Code != fault {
			t.Errorf("the receipts at %d: the fault is %d, the code of the root %d, want %d", i, all.Fault[i], all.Root[i].Code, fault)
		}
		wantLength(t, "ReceiptsRoot", i, all.Root[i].Code, len(all.Root[i].Bytes), []int64{fault}, 32)
		for k, index := range indexes {
			want := proveReceiptAs(list, index)
			wantProof(t, "ProveReceipt", all.Proof[i*len(indexes)+k], want.Code, want.Nodes)
		}
	}
	for i := range indexes {
		wantLength(t, "ReceiptKey", i, all.Key[i].Code, len(all.Key[i].Bytes), []int64{impl.ErrRange}, 1, 2, 3)
	}
	told := map[int64]bool{}
	for i, a := range asked {
		wantTrie(t, "CheckReceipt", all.Check[i], checkReceiptAs(a.root, a.index, a.nodes))
		told[all.Check[i].Code] = true
	}
	for _, code := range []int64{impl.OK, impl.ErrForm, impl.ErrMany, impl.ErrRange, impl.ErrNone, impl.ErrText, impl.ErrSign} {
		if !told[code] {
			t.Errorf("the code %d is never told", code)
		}
	}
}

// Beside a code, and beside what is not found, there is nothing.
func TestP1ReceiptsTellNothingBesideACode(t *testing.T) {
	all := askReceipts(receiptsArguments(), indexArguments(), askings())
	for _, r := range append(all.Key, all.Root...) {
		if r.Code != impl.OK && len(r.Bytes) > 0 {
			t.Errorf("bytes beside a code: %+v", r)
		}
	}
	for i, r := range all.Proof {
		if r.Code != impl.OK && len(r.Nodes) > 0 {
			t.Errorf("ProveReceipt at %d: %+v", i, r)
		}
	}
	for i, r := range all.Check {
		if (r.Code != impl.OK || !r.Found) && (r.Found || len(r.Value) > 0) || r.Found && len(r.Value) == 0 {
			t.Errorf("CheckReceipt at %d: %+v", i, r)
		}
	}
}

// roomyReceipts are the same receipts, in memory with more room than it shows.
func roomyReceipts(list [][]byte) [][]byte {
	return withRoom(allWithRoom(list, 71), []byte{72, 73})
}

func (a asking) roomy() asking {
	return asking{root: withRoom(a.root, 5), index: a.index, nodes: roomyReceipts(a.nodes)}
}

func (a asking) whole() asking {
	return asking{root: bytes.Clone(a.root[:cap(a.root)]), index: a.index, nodes: wholeLists(a.nodes)}
}

func roomyArguments() ([][][]byte, []asking) {
	var lists [][][]byte
	var asked []asking
	for _, list := range receiptsArguments() {
		lists = append(lists, roomyReceipts(list))
	}
	for _, a := range askings() {
		asked = append(asked, a.roomy())
	}
	return lists, asked
}

func sameReceiptAnswers(a receiptAnswers, b receiptAnswers) bool {
	sameBytes := func(a, b impl.BytesResult) bool { return a.Code == b.Code && bytes.Equal(a.Bytes, b.Bytes) }
	sameProof := func(a, b impl.ProofResult) bool { return a.Code == b.Code && equalLists(a.Nodes, b.Nodes) }
	same := slices.Equal(a.Fault, b.Fault) && slices.EqualFunc(a.Key, b.Key, sameBytes) && slices.EqualFunc(a.Root, b.Root, sameBytes)
	return same && slices.EqualFunc(a.Proof, b.Proof, sameProof) && slices.EqualFunc(a.Check, b.Check, sameTrie)
}

func TestP1ReceiptsHangOnTheArgumentsAlone(t *testing.T) {
	first := askReceipts(receiptsArguments(), indexArguments(), askings())
	if !reflect.DeepEqual(first, askReceipts(receiptsArguments(), indexArguments(), askings())) {
		t.Error("the same arguments are answered otherwise the second time")
	}
	lists, asked := roomyArguments()
	if !sameReceiptAnswers(first, askReceipts(lists, indexArguments(), asked)) {
		t.Error("an answer hangs on what is behind an argument")
	}
}

// What is empty and what is nil are answered the same.
func TestP1ReceiptsTakeNilAndEmptyForTheSame(t *testing.T) {
	root := rootAs(nil)
	none := askReceipts([][][]byte{nil, {nil}, {{1}, nil}}, indexArguments(), []asking{{root, 0, nil}, {nil, 0, nil}, {nil, -1, nil}, {root, 0, [][]byte{nil}}})
	empty := askReceipts([][][]byte{{}, {{}}, {{1}, {}}}, indexArguments(), []asking{{root, 0, [][]byte{}}, {[]byte{}, 0, [][]byte{}}, {[]byte{}, -1, [][]byte{}}, {root, 0, [][]byte{{}}}})
	if !sameReceiptAnswers(none, empty) {
		t.Error("what is nil is answered otherwise than what is empty")
	}
}

func TestP1ReceiptsAnswerTheSameBehindOthers(t *testing.T) {
	list := plainReceipts(7)
	right := asking{receiptsRootAs(list), 4, receiptProofAs(list, 4)}
	ask := func() receiptAnswers {
		return askReceipts([][][]byte{list}, []int64{0, 4, 7, 9999, -1}, []asking{right})
	}
	first := ask()
	for i, other := range receiptsArguments() {
		askReceipts([][][]byte{other}, indexArguments(), nil)
		if !sameReceiptAnswers(first, ask()) {
			t.Errorf("behind the receipts at %d others are answered otherwise", i)
		}
	}
	for i, other := range askings() {
		askReceipts(nil, nil, []asking{other})
		if !sameReceiptAnswers(first, ask()) {
			t.Errorf("behind the proof at %d others are answered otherwise", i)
		}
	}
}

func TestP1ReceiptsAnswerSideBySide(t *testing.T) {
	wantSideBySide(t, 60, func(i int) func() bool {
		list := append(plainReceipts(i+1), append(fill(40), byte(i)))
		index := int64(i + 1)
		root, nodes := receiptsRootAs(list), receiptProofAs(list, index)
		key := receiptKeyAs(index * 100)
		return func() bool {
			same := impl.ReceiptsFault(list) == impl.OK && bytes.Equal(impl.ReceiptsRoot(list).Bytes, root) && bytes.Equal(impl.ReceiptKey(index*100).Bytes, key)
			return same && equalLists(impl.ProveReceipt(list, index).Nodes, nodes) && sameTrie(impl.CheckReceipt(root, index, nodes), foundAs(list[index]...))
		}
	})
}

// Neither receipts nor nodes are changed, nor what is behind them.
func TestP1ReceiptsChangeNoArgument(t *testing.T) {
	lists, asked := roomyArguments()
	for i, list := range lists {
		before := wholeLists(list)
		askReceipts([][][]byte{list}, indexArguments(), nil)
		if !reflect.DeepEqual(wholeLists(list), before) {
			t.Errorf("the receipts at %d, or what is behind them, were changed", i)
		}
	}
	for i, a := range asked {
		before := a.whole()
		askReceipts(nil, nil, []asking{a})
		if !reflect.DeepEqual(a.whole(), before) {
			t.Errorf("the proof at %d, or what is behind it, was changed", i)
		}
	}
}

func TestP1ReceiptsShareNoMemory(t *testing.T) {
	for _, index := range insideIndexes() {
		wantBytesApart(t, "ReceiptKey", func() []byte { return impl.ReceiptKey(index).Bytes })
	}
	for _, plain := range receiptLists() {
		list := roomyReceipts(plain)
		before := wholeLists(list)
		wantBytesApart(t, "ReceiptsRoot", func() []byte { return impl.ReceiptsRoot(list).Bytes })
		for _, index := range []int64{0, 1, 9, 10, 128, 9999} {
			a := asking{receiptsRootAs(plain), index, receiptProofAs(plain, index)}.roomy()
			whole := a.whole()
			wantProofsApart(t, "ProveReceipt", func() impl.ProofResult { return impl.ProveReceipt(list, index) }, receiptProofAs(plain, index))
			wantBytesApart(t, "CheckReceipt", func() []byte { return impl.CheckReceipt(a.root, a.index, a.nodes).Value })
			if !reflect.DeepEqual(a.whole(), whole) {
				t.Error("a proof is changed with an answer")
			}
		}
		if !reflect.DeepEqual(wholeLists(list), before) {
			t.Error("receipts are changed with an answer")
		}
	}
}

func TestP1ReceiptsAnswersDoNotFollowTheirArguments(t *testing.T) {
	for _, plain := range receiptLists() {
		for _, index := range []int64{0, 1, 9, 10, 128, 9999} {
			list := roomyReceipts(plain)
			a := asking{receiptsRootAs(plain), index, receiptProofAs(plain, index)}.roomy()
			root, shown, checked := impl.ReceiptsRoot(list), impl.ProveReceipt(list, index), impl.CheckReceipt(a.root, a.index, a.nodes)
			spoil(a.root, 77)
			for _, data := range slices.Concat(list, a.nodes) {
				spoil(data, 77)
			}
			spoil(list, nil)
			spoil(a.nodes, nil)
			wantBytes(t, "ReceiptsRoot, its argument changed since", root, impl.OK, receiptsRootAs(plain))
			wantProof(t, "ProveReceipt, its argument changed since", shown, impl.OK, receiptProofAs(plain, index))
			wantTrie(t, "CheckReceipt, its argument changed since", checked, receiptShownAs(plain, index))
		}
	}
}

// Receipts that share all memory with each other are receipts like others.
func TestP1ReceiptsTakeReceiptsThatShareMemory(t *testing.T) {
	memory := fill(60)
	var list [][]byte
	for n := range mostReceipts {
		list = append(list, memory[3*n:60-2*n])
	}
	plain := cloneLists(list)
	wantBytes(t, "ReceiptsRoot", impl.ReceiptsRoot(list), impl.OK, receiptsRootAs(plain))
	for index := range int64(12) {
		got := impl.ProveReceipt(list, index)
		wantProof(t, "ProveReceipt", got, impl.OK, receiptProofAs(plain, index))
		wantTrie(t, "CheckReceipt", impl.CheckReceipt(receiptsRootAs(plain), index, got.Nodes), receiptShownAs(plain, index))
	}
	if !bytes.Equal(memory, fill(60)) {
		t.Error("the memory that all share was changed")
	}
}
