package tests

import (
	"bytes"
	"maps"
	"math"
	"reflect"
	"slices"
	"testing"

	"loop.example/g00383/impl"
)

// pairsArguments are of every kind that chapter 13 tells apart, with and without a fault.
func pairsArguments() [][]impl.Pair {
	list := [][]impl.Pair{
		nil, {}, {{}}, {{Key: fill(7), Value: fill(1)}}, {{Key: fill(1 << 16), Value: fill(1)}}, {{Value: fill(61)}}, {{Value: fill(1 << 16)}},
		{textPair("a", "b"), textPair("a", "c")}, {textPair("a", "b"), textPair("a", "")}, make([]impl.Pair, 12), make([]impl.Pair, 13), make([]impl.Pair, 1<<16),
		plainPairs(13), plainPairs(300),
	}
	list = append(list, orderedSets()...)
	return append(list, manyPairs(20)...)
}

// orderedSets are the pairSets in one order.
func orderedSets() [][]impl.Pair {
	var list [][]impl.Pair
	sets := pairSets()
	for _, call := range slices.Sorted(maps.Keys(sets)) {
		list = append(list, sets[call])
	}
	return list
}

func pathArguments() [][]int64 {
	list := [][]int64{nil, {}, make([]int64, 21), make([]int64, 1<<16)}
	for _, n := range []int{1, 2, 11, 12, 19, 20, 21, 50} {
		list = append(list, pathOf(someDigits(n)))
	}
	for _, no := range []int64{math.MinInt64, -1, 16, math.MaxInt64} {
		list = append(list, []int64{no}, []int64{1, no}, append(make([]int64, 19), no), append(make([]int64, 20), no))
	}
	return list
}

func pathDataArguments() [][]byte {
	list := [][]byte{nil, {}, fill(1200), fill(1 << 16)}
	for b := range 256 {
		list = append(list, []byte{byte(b)})
	}
	for _, head := range []byte{0, 1, 0x0f, 0x10, 0x1f, 0x20, 0x21, 0x2f, 0x30, 0x3f, 0x40, 0xff} {
		for _, n := range []int{1, 9, 10, 11, 12} {
			list = append(list, append([]byte{head}, fill(n)...))
		}
	}
	return list
}

func keyArguments() [][]byte {
	return [][]byte{nil, {}, {0}, {0x12}, {0xab, 0xcd}, []byte("dog"), []byte("doge"), unhex("abcdefabcdef"), fill(6), fill(7), fill(1 << 16)}
}

// showing is what CheckKey is asked with.
type showing struct {
	root  []byte
	key   []byte
	nodes [][]byte
}

func showingOf(key string, root []byte, nodes [][]byte) showing {
	return showing{root: root, key: unhex(key), nodes: nodes}
}

func showings() []showing {
	list := []showing{
		{}, {root: rootAs(nil)}, {root: rootAs(nil), key: fill(7)}, {root: rootAs(nil), nodes: [][]byte{{0x80}}}, {root: rootAs(nil), nodes: [][]byte{nil}}, {root: fill(31)}, {root: fill(33)}, {root: fill(1 << 16)}, {root: make([]byte, 32)},
		{root: fill(32), nodes: make([][]byte, 14)}, {root: fill(32), nodes: make([][]byte, 15)}, {root: fill(32), nodes: make([][]byte, 1<<16)}, {root: fill(32), nodes: [][]byte{fill(600)}}, {root: fill(32), nodes: [][]byte{fill(601)}}, {root: fill(32), nodes: [][]byte{fill(1 << 16)}},
	}
	for _, pairs := range orderedSets() {
		for _, key := range append(keyArguments()[:8], unhex("110102030405")) {
			nodes := proofAs(pairs, key)
			list = append(list, showing{rootAs(pairs), key, nodes}, showing{rootAs(pairs), key, append(slices.Clone(nodes), fill(3))}, showing{rootAs(pairs), key, nodes[:max(0, len(nodes)-1)]})
		}
	}
	for _, last := range []tree{leaf(), listOf(), endOf("12"), endOf("12", 7), pathTo("", endOf("12", 7)), pathTo("1", leaf(fill(31)...)), branchOf(nil, map[int]tree{1: leaf(7)}), branchOf([]byte{7}, map[int]tree{1: listOf()}), repeated(listOf(), 17), nested(300, leaf())} {
		root, nodes := linked(last)
		list = append(list, showingOf("12", root, nodes), showingOf("", root, nodes))
		root, nodes = linked(last, byPath("ab"), byBranch(1))
		list = append(list, showingOf("ab12", root, nodes), showingOf("ab22", root, nodes), showingOf("ab12", root, nodes[:2]), showingOf("ab12", root[:31], nodes))
	}
	return list
}

type trieAnswers struct {
	Fault    []int64
	Packed   []impl.BytesResult
	Unpacked []impl.PathResult
	Root     []impl.BytesResult
	Proof    []impl.ProofResult
	Check    []impl.TrieResult
}

// askTries calls each function of chapter 13 with each argument, and each pairs with each key.
func askTries(pairs [][]impl.Pair, paths [][]int64, datas [][]byte, keys [][]byte, shown []showing) trieAnswers {
	var all trieAnswers
	for _, list := range pairs {
		all.Fault = append(all.Fault, impl.PairsFault(list))
		all.Root = append(all.Root, impl.RootOf(list))
		for _, key := range keys {
			all.Proof = append(all.Proof, impl.ProveKey(list, key))
		}
	}
	for _, path := range paths {
		all.Packed = append(all.Packed, impl.PackPath(path, false), impl.PackPath(path, true))
	}
	for _, data := range datas {
		all.Unpacked = append(all.Unpacked, impl.UnpackPath(data))
	}
	for _, s := range shown {
		all.Check = append(all.Check, impl.CheckKey(s.root, s.key, s.nodes))
	}
	return all
}

func askAllTries() trieAnswers {
	return askTries(pairsArguments(), pathArguments(), pathDataArguments(), keyArguments(), showings())
}

func TestP1TriesAnswerAtEveryArgument(t *testing.T) {
	pairs, keys, shown := pairsArguments(), keyArguments(), showings()
	all := askTries(pairs, pathArguments(), pathDataArguments(), keys, shown)
	for i, list := range pairs {
		fault := pairsFaultAs(list)
		if all.Fault[i] != fault || all.Root[i].Code != fault {
			t.Errorf("the pairs at %d: the fault is %d, the code of the root %d, want %d", i, all.Fault[i], all.Root[i].Code, fault)
		}
		wantLength(t, "RootOf", i, all.Root[i].Code, len(all.Root[i].Bytes), []int64{fault}, 32)
		for k, key := range keys {
			code := fault
			if fault == impl.OK && len(key) > 6 {
				code = impl.ErrForm
			}
			var nodes [][]byte
			if code == impl.OK {
				nodes = proofAs(list, key)
			}
			wantProof(t, "ProveKey", all.Proof[i*len(keys)+k], code, nodes)
		}
	}
	for i, r := range all.Packed {
		wantLength(t, "PackPath", i, r.Code, min(1, len(r.Bytes)), []int64{impl.ErrMany, impl.ErrRange}, 1)
	}
	for i, data := range pathDataArguments() {
		code, path, end := unpackAs(data)
		wantPath(t, "UnpackPath", all.Unpacked[i], code, path, end)
	}
	told := map[int64]bool{}
	for i, s := range shown {
		wantTrie(t, "CheckKey", all.Check[i], checkAs(s.root, s.key, s.nodes))
		told[all.Check[i].Code] = true
	}
	for _, code := range []int64{impl.OK, impl.ErrForm, impl.ErrMany, impl.ErrNone, impl.ErrText, impl.ErrSign} {
		if !told[code] {
			t.Errorf("the code %d is never told", code)
		}
	}
}

// Beside a code, and beside what is not found, there is nothing.
func TestP1TriesTellNothingBesideACode(t *testing.T) {
	all := askAllTries()
	for i, r := range all.Check {
		if (r.Code != impl.OK || !r.Found) && (r.Found || len(r.Value) > 0) || r.Found && len(r.Value) == 0 {
			t.Errorf("CheckKey at %d: %+v", i, r)
		}
	}
	for i, r := range all.Unpacked {
		if r.Code != impl.OK && (r.End || len(r.Path) > 0) {
			t.Errorf("UnpackPath at %d: %+v", i, r)
		}
	}
}

// roomyPairs are the same pairs, in memory with more room than it shows.
func roomyPairs(pairs []impl.Pair) []impl.Pair {
	var roomy []impl.Pair
	for _, pair := range pairs {
		roomy = append(roomy, impl.Pair{Key: append(bytes.Clone(pair.Key), 71, 72, 73)[:len(pair.Key)], Value: append(bytes.Clone(pair.Value), 74, 75, 76)[:len(pair.Value)]})
	}
	return withRoom(roomy, textPair("room", "behind"))
}

func allRoomyPairs() [][]impl.Pair {
	var all [][]impl.Pair
	for _, pairs := range pairsArguments() {
		all = append(all, roomyPairs(pairs))
	}
	return all
}

func (s showing) roomy() showing {
	return showing{root: withRoom(s.root, 5), key: withRoom(s.key, 6), nodes: withRoom(allWithRoom(s.nodes, 7), []byte{0xc0})}
}

// smallShowings are those without the longest lists.
func smallShowings() []showing {
	return slices.DeleteFunc(showings(), func(s showing) bool { return len(s.nodes) > 1000 })
}

func roomyShowings() []showing {
	var roomy []showing
	for _, s := range smallShowings() {
		roomy = append(roomy, s.roomy())
	}
	return roomy
}

// sameTrieAnswers holds them against each other; nil and empty are the same.
func sameTrieAnswers(a trieAnswers, b trieAnswers) bool {
	sameBytes := func(a, b impl.BytesResult) bool { return a.Code == b.Code && bytes.Equal(a.Bytes, b.Bytes) }
	samePath := func(a, b impl.PathResult) bool {
		return a.Code == b.Code && a.End == b.End && slices.Equal(a.Path, b.Path)
	}
	sameProof := func(a, b impl.ProofResult) bool { return a.Code == b.Code && equalLists(a.Nodes, b.Nodes) }
	same := slices.Equal(a.Fault, b.Fault) && slices.EqualFunc(a.Packed, b.Packed, sameBytes) && slices.EqualFunc(a.Unpacked, b.Unpacked, samePath)
	return same && slices.EqualFunc(a.Root, b.Root, sameBytes) && slices.EqualFunc(a.Proof, b.Proof, sameProof) && slices.EqualFunc(a.Check, b.Check, sameTrie)
}

func TestP1TriesHangOnTheArgumentsAlone(t *testing.T) {
	shown := smallShowings()
	ask := func() trieAnswers {
		return askTries(pairsArguments(), pathArguments(), pathDataArguments(), keyArguments(), shown)
	}
	first := ask()
	if !reflect.DeepEqual(first, ask()) {
		t.Error("the same arguments are answered otherwise the second time")
	}
	var roomy []showing
	for _, s := range shown {
		roomy = append(roomy, s.roomy())
	}
	behind := askTries(allRoomyPairs(), allWithRoom(pathArguments(), 5), allWithRoom(pathDataArguments(), 6), allWithRoom(keyArguments(), 7), roomy)
	if !sameTrieAnswers(first, behind) {
		t.Error("an answer hangs on what is behind an argument")
	}
}

// What is empty and what is nil are answered the same.
func TestP1TriesTakeNilAndEmptyForTheSame(t *testing.T) {
	for _, pairs := range [][]impl.Pair{nil, {textPair("", "a")}, {textPair("", "a"), textPair("bc", "d")}, {{}}} {
		empty, none := append([]impl.Pair{}, clonePairs(pairs)...), clonePairs(pairs)
		for i := range empty {
			empty[i].Key, empty[i].Value = append([]byte{}, empty[i].Key...), append([]byte{}, empty[i].Value...)
			if len(none[i].Key) == 0 {
				none[i].Key = nil
			}
		}
		root := impl.RootOf(none)
		a := askTries([][]impl.Pair{none}, [][]int64{nil}, [][]byte{nil}, [][]byte{nil}, []showing{{root.Bytes, nil, proofAs(pairs, nil)}, {rootAs(nil), nil, nil}, {fill(32), nil, [][]byte{nil}}})
		b := askTries([][]impl.Pair{empty}, [][]int64{{}}, [][]byte{{}}, [][]byte{{}}, []showing{{root.Bytes, []byte{}, append([][]byte{}, proofAs(pairs, nil)...)}, {rootAs(nil), []byte{}, [][]byte{}}, {fill(32), []byte{}, [][]byte{{}}}})
		if !sameTrieAnswers(a, b) {
			t.Errorf("%+v is answered otherwise where empty is nil", pairs)
		}
	}
}

func TestP1TriesAnswerTheSameBehindOthers(t *testing.T) {
	pairs, key := pairSets()["puppies"], []byte("dog")
	right := showing{rootAs(pairs), key, proofAs(pairs, key)}
	ask := func() trieAnswers {
		return askTries([][]impl.Pair{pairs}, [][]int64{{1, 2, 3}}, [][]byte{{0x31, 0x23}}, [][]byte{key}, []showing{right})
	}
	first := ask()
	for i, other := range pairsArguments() {
		askTries([][]impl.Pair{other}, pathArguments()[:8], pathDataArguments()[:8], keyArguments(), nil)
		if !sameTrieAnswers(first, ask()) {
			t.Errorf("behind the pairs at %d another one is answered otherwise", i)
		}
	}
	for i, other := range showings() {
		impl.CheckKey(other.root, other.key, other.nodes)
		if i%10 == 0 && !sameTrieAnswers(first, ask()) {
			t.Errorf("behind the proof at %d another one is answered otherwise", i)
		}
	}
}

func TestP1TriesAnswerSideBySide(t *testing.T) {
	wantSideBySide(t, 60, func(i int) func() bool {
		pairs := append(slices.Clone(heavyPairs()[:4+i]), digitPair("ffff", byte(i+1)))
		key := pairs[1+i%3].Key
		root, nodes := rootAs(pairs), proofAs(pairs, key)
		path, packed := pathOf(someDigits(i+5)), packAs(someDigits(i+5), i%2 == 0)
		return func() bool {
			same := impl.PairsFault(pairs) == impl.OK && bytes.Equal(impl.RootOf(pairs).Bytes, root) && equalLists(impl.ProveKey(pairs, key).Nodes, nodes)
			same = same && sameTrie(impl.CheckKey(root, key, nodes), foundAs(fill(60)...)) && sameTrie(impl.CheckKey(root, unhex("fffe"), nodes), impl.TrieResult{Code: impl.ErrMany})
			return same && bytes.Equal(impl.PackPath(path, i%2 == 0).Bytes, packed) && slices.Equal(impl.UnpackPath(packed).Path, path)
		}
	})
}

// wholePairs copies all that pairs may reach, the room behind them too.
func wholePairs(pairs []impl.Pair) []impl.Pair {
	var whole []impl.Pair
	for _, pair := range pairs[:cap(pairs)] {
		whole = append(whole, impl.Pair{Key: bytes.Clone(pair.Key[:cap(pair.Key)]), Value: bytes.Clone(pair.Value[:cap(pair.Value)])})
	}
	return whole
}

func (s showing) whole() showing {
	return showing{root: bytes.Clone(s.root[:cap(s.root)]), key: bytes.Clone(s.key[:cap(s.key)]), nodes: wholeLists(s.nodes)}
}

// Neither pairs nor nodes are changed, nor what is behind them.
func TestP1TriesChangeNoArgument(t *testing.T) {
	keys := allWithRoom(keyArguments(), 9)
	beforeKeys := wholeLists(keys)
	for i, pairs := range allRoomyPairs() {
		before := wholePairs(pairs)
		askTries([][]impl.Pair{pairs}, nil, nil, keys, nil)
		if !reflect.DeepEqual(wholePairs(pairs), before) {
			t.Errorf("the pairs at %d, or what is behind them, were changed", i)
		}
	}
	if !reflect.DeepEqual(wholeLists(keys), beforeKeys) {
		t.Error("a key, or what is behind it, was changed")
	}
	for i, s := range roomyShowings() {
		before := s.whole()
		impl.CheckKey(s.root, s.key, s.nodes)
		if !reflect.DeepEqual(s.whole(), before) {
			t.Errorf("the proof at %d, or what is behind it, was changed", i)
		}
	}
	wantUnchanged(t, pathArguments(), 9, func(path []int64) { askTries(nil, [][]int64{path}, nil, nil, nil) })
	wantUnchanged(t, pathDataArguments(), 9, func(data []byte) { askTries(nil, nil, [][]byte{data}, nil, nil) })
}

// wantProofsApart: what was told is changed, the room behind all of it too; no other answer is, and no other node of it.
func wantProofsApart(t *testing.T, call string, ask func() impl.ProofResult, nodes [][]byte) {
	t.Helper()
	one, two := ask(), ask()
	for _, data := range one.Nodes {
		_ = append(data, 77, 77)
		spoil(data, 77)
	}
	spoil(one.Nodes, []byte{77})
	wantProof(t, call+" beside a changed answer", two, impl.OK, nodes)
	wantProof(t, call+" behind a changed answer", ask(), impl.OK, nodes)
	for changed := range nodes {
		got := ask()
		spoil(got.Nodes[changed], 77)
		for at := range nodes {
			if at != changed && !bytes.Equal(got.Nodes[at], nodes[at]) {
				t.Errorf("%s: the node at %d is changed with that at %d", call, at, changed)
			}
		}
	}
}

func TestP1TriesShareNoMemory(t *testing.T) {
	for call, plain := range pairSets() {
		pairs := roomyPairs(plain)
		before := wholePairs(pairs)
		wantBytesApart(t, "RootOf "+call, func() []byte { return impl.RootOf(pairs).Bytes })
		for _, key := range append(keyArguments()[:8], unhex("110102030405"), unhex("5510")) {
			shown := showing{rootAs(plain), key, proofAs(plain, key)}.roomy()
			whole := shown.whole()
			wantProofsApart(t, "ProveKey of "+call, func() impl.ProofResult { return impl.ProveKey(pairs, shown.key) }, proofAs(plain, key))
			wantBytesApart(t, "CheckKey of "+call, func() []byte { return impl.CheckKey(shown.root, shown.key, shown.nodes).Value })
			if !reflect.DeepEqual(shown.whole(), whole) {
				t.Errorf("%s: a proof is changed with an answer", call)
			}
		}
		if !reflect.DeepEqual(wholePairs(pairs), before) {
			t.Errorf("%s: the pairs are changed with an answer", call)
		}
	}
	for n := range mostPath + 1 {
		path, data := withRoom(pathOf(someDigits(n)), 9), withRoom(packAs(someDigits(n), true), 9)
		wantBytesApart(t, "PackPath", func() []byte { return impl.PackPath(path, true).Bytes })
		wantApart(t, "UnpackPath", func() []int64 { return impl.UnpackPath(data).Path })
		if !slices.Equal(path, pathOf(someDigits(n))) || !bytes.Equal(data, packAs(someDigits(n), true)) {
			t.Error("an argument is changed with an answer")
		}
	}
}

func TestP1TriesAnswersDoNotFollowTheirArguments(t *testing.T) {
	for call, plain := range pairSets() {
		for _, key := range append(keyArguments()[:8], unhex("110102030405"), unhex("5510")) {
			pairs := roomyPairs(plain)
			shown := showing{rootAs(plain), bytes.Clone(key), proofAs(plain, key)}
			found, value := isThere(plain, key)
			root, proof, checked := impl.RootOf(pairs), impl.ProveKey(pairs, shown.key), impl.CheckKey(shown.root, shown.key, shown.nodes)
			for _, pair := range pairs {
				spoil(pair.Key, 77)
				spoil(pair.Value, 77)
			}
			spoil(pairs, impl.Pair{})
			spoil(shown.key, 77)
			for _, data := range shown.nodes {
				spoil(data, 77)
			}
			spoil(shown.nodes, nil)
			wantBytes(t, "RootOf "+call+", its argument changed since", root, impl.OK, rootAs(plain))
			wantProof(t, "ProveKey of "+call+", its argument changed since", proof, impl.OK, proofAs(plain, key))
			wantTrie(t, "CheckKey of "+call+", its argument changed since", checked, impl.TrieResult{Found: found, Value: value})
		}
	}
	path, data := pathOf(someDigits(9)), packAs(someDigits(9), true)
	packed, unpacked := impl.PackPath(path, true), impl.UnpackPath(data)
	spoil(path, 7)
	spoil(data, 7)
	wantBytes(t, "PackPath, its argument changed since", packed, impl.OK, packAs(someDigits(9), true))
	wantPath(t, "UnpackPath, its argument changed since", unpacked, impl.OK, pathOf(someDigits(9)), true)
}

// Pairs that share all memory with each other, and with the key, are pairs like others.
func TestP1TriesTakePairsThatShareMemory(t *testing.T) {
	memory := fill(12)
	var pairs []impl.Pair
	for n := range 7 {
		pairs = append(pairs, impl.Pair{Key: memory[:n], Value: memory[:12-n]})
	}
	before := bytes.Clone(memory)
	wantBytes(t, "RootOf", impl.RootOf(pairs), impl.OK, rootAs(clonePairs(pairs)))
	for n := range 7 {
		got := impl.ProveKey(pairs, memory[:n])
		wantProof(t, "ProveKey", got, impl.OK, proofAs(clonePairs(pairs), fill(n)))
		wantTrie(t, "CheckKey", impl.CheckKey(rootAs(pairs), memory[:n], got.Nodes), foundAs(fill(12-n)...))
	}
	if !bytes.Equal(memory, before) {
		t.Error("the memory that all share was changed")
	}
	node := endOf("", fill(32)...).bytes()
	hash := impl.KeccakOf(node).Bytes
	wantTrie(t, "CheckKey of one node many times", impl.CheckKey(hash, nil, slices.Repeat([][]byte{node}, 3)), impl.TrieResult{Code: impl.ErrMany})
	wantTrie(t, "CheckKey of a root that is a node", impl.CheckKey(hash, nil, [][]byte{hash}), impl.TrieResult{Code: impl.ErrSign})
}
