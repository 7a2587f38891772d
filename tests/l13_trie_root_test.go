package tests

import (
	"bytes"
	"encoding/hex"
	"math/rand/v2"
	"slices"
	"sort"
	"strings"
	"testing"

	"loop.example/g00383/impl"
)

const allDigits = "0123456789abcdef"

// valuesByDigits are pairs as one looks them up: by the digits of their keys.
type valuesByDigits map[string][]byte

func byDigits(pairs []impl.Pair) valuesByDigits {
	all := valuesByDigits{}
	for _, pair := range pairs {
		all[hex.EncodeToString(pair.Key)] = pair.Value
	}
	return all
}

// under are the keys that begin with some digits, rising.
func (all valuesByDigits) under(begin string) []string {
	var keys []string
	for key := range all {
		if strings.HasPrefix(key, begin) {
			keys = append(keys, key)
		}
	}
	sort.Strings(keys)
	return keys
}

// commonDigits is what all these keys begin with: what the first and the last one do.
func commonDigits(keys []string) string {
	first, last := keys[0], keys[len(keys)-1]
	n := 0
	for n < min(len(first), len(last)) && first[n] == last[n] {
		n++
	}
	return first[:n]
}

// nodeAs is what the chapter says that the node of those is whose keys begin with some digits.
func (all valuesByDigits) nodeAs(begin string) tree {
	keys := all.under(begin)
	alike := commonDigits(keys)[len(begin):]
	switch {
	case len(keys) == 1:
		return listOf(leaf(packAs(alike, true)...), leaf(all[keys[0]]...))
	case alike != "":
		return listOf(leaf(packAs(alike, false)...), standAs(all.nodeAs(begin+alike)))
	}
	var parts []tree
	for _, digit := range allDigits {
		part := leaf()
		if len(all.under(begin+string(digit))) > 0 {
			part = standAs(all.nodeAs(begin + string(digit)))
		}
		parts = append(parts, part)
	}
	return listOf(append(parts, leaf(all[begin]...))...)
}

func hashOfTree(tr tree) []byte {
	return impl.KeccakOf(tr.bytes()).Bytes
}

func standAs(node tree) tree {
	if len(node.bytes()) < 32 {
		return node
	}
	return leaf(hashOfTree(node)...)
}

func rootAs(pairs []impl.Pair) []byte {
	if len(pairs) == 0 {
		return unhex("56e81f171bcc55a6ff8345e692c0f86e5b48e01b996cadc001622fb5e363b421")
	}
	return hashOfTree(byDigits(pairs).nodeAs(""))
}

// hasNodeAt tells whether a node stands where these digits are done: the first one, a branch, or one that a branch goes on to.
func (all valuesByDigits) hasNodeAt(digits string) bool {
	isBranch := func(digits string) bool {
		keys := all.under(digits)
		return len(keys) > 1 && commonDigits(keys) == digits
	}
	if len(all.under(digits)) == 0 {
		return false
	}
	return digits == "" || isBranch(digits) || isBranch(digits[:len(digits)-1])
}

// proofAs is what the chapter says that ProveKey is: of all that the key begins with, where a node stands.
func proofAs(pairs []impl.Pair, key []byte) [][]byte {
	all, way := byDigits(pairs), hex.EncodeToString(key)
	var nodes [][]byte
	for n := range len(way) + 1 {
		if !all.hasNodeAt(way[:n]) {
			continue
		}
		if data := all.nodeAs(way[:n]).bytes(); n == 0 || len(data) >= 32 {
			nodes = append(nodes, data)
		}
	}
	return nodes
}

func wantRoot(t *testing.T, call string, pairs []impl.Pair, root string) {
	t.Helper()
	wantBytes(t, "RootOf "+call, impl.RootOf(pairs), impl.OK, unhex(root))
	wantBytes(t, "RootOf "+call+", by the chapter", impl.RootOf(pairs), impl.OK, rootAs(pairs))
}

// wantNode: the root is the hash of a node that is written out.
func wantNode(t *testing.T, call string, node tree, pairs ...impl.Pair) {
	t.Helper()
	wantBytes(t, "RootOf "+call, impl.RootOf(pairs), impl.OK, hashOfTree(node))
	wantBytes(t, "RootOf "+call+", by the chapter", impl.RootOf(pairs), impl.OK, rootAs(pairs))
	shown := impl.ProveKey(pairs, nil)
	if shown.Code != impl.OK || len(shown.Nodes) == 0 || !bytes.Equal(shown.Nodes[0], node.bytes()) {
		t.Errorf("ProveKey of %s: %x, want the node %x", call, shown, node.bytes())
	}
}

// These roots are known from elsewhere.
func TestP14KnownRoots(t *testing.T) {
	wantRoot(t, "no pairs", nil, "56e81f171bcc55a6ff8345e692c0f86e5b48e01b996cadc001622fb5e363b421")
	wantRoot(t, "no pairs", []impl.Pair{}, "56e81f171bcc55a6ff8345e692c0f86e5b48e01b996cadc001622fb5e363b421")
	wantRoot(t, "a single pair", []impl.Pair{textPair("A", strings.Repeat("a", 50))}, "d23786fb4a010da3ce639d66d5e904a11dbc02746d1ce25029e53290cabf28ab")
	wantRoot(t, "puppies", []impl.Pair{textPair("do", "verb"), textPair("horse", "stallion"), textPair("doge", "coin"), textPair("dog", "puppy")}, "5991bb8c6514148a29db676a14ac506cd2cd5775ace63c30a4fe457715e9ac84")
	wantRoot(t, "foo and food", []impl.Pair{textPair("foo", "bar"), textPair("food", "bass")}, "17beaa1648bafa633cda809c90c04af50fc8aed3cb40d16efbddee6fdf63c4c3")
	wantRoot(t, "small values", []impl.Pair{textPair("be", "e"), textPair("dog", "puppy"), textPair("bed", "d")}, "3f67c7a47520f79faa29255d2d3c084a7a6df0453116ed7232ff10277a8be68b")
	wantRoot(t, "testy", []impl.Pair{textPair("test", "test"), textPair("te", "testy")}, "8452568af70d8d140f58d941338542f645fcca50094b20f3c3d8c3df49337928")
	wantRoot(t, "keys of bytes", []impl.Pair{digitPair("0045", unhex("0123456789")...), digitPair("4500", unhex("9876543210")...)}, "285505fcabe84badc8aa310e2aae17eddc7d120aabec8a476902c8184b3a3503")
}

// branchOf is a list of 17: parts at some half bytes, and a value.
func branchOf(value []byte, parts map[int]tree) tree {
	list := slices.Repeat([]tree{leaf()}, 16)
	for half, part := range parts {
		list[half] = part
	}
	return listOf(append(list, leaf(value...))...)
}

// endOf is a list of 2 that ends a key.
func endOf(digits string, value ...byte) tree {
	return listOf(leaf(packAs(digits, true)...), leaf(value...))
}

// pathTo is a list of 2 that goes on.
func pathTo(digits string, next tree) tree {
	return listOf(leaf(packAs(digits, false)...), next)
}

func TestP14RootOfOne(t *testing.T) {
	wantNode(t, "one pair with an empty key", endOf("", 5), impl.Pair{Value: []byte{5}})
	wantNode(t, "one pair with an empty key and a value of 128", endOf("", 128), impl.Pair{Value: []byte{128}})
	wantNode(t, "one pair", endOf("abcd", 1, 2, 3), digitPair("abcd", 1, 2, 3))
	wantNode(t, "one pair of a zero", endOf("00", 0), digitPair("00", 0))
	for n := range 7 {
		for _, m := range []int{1, 2, 20, 55, 56, 59, 60} {
			pair := impl.Pair{Key: fill(n), Value: fill(m)}
			wantNode(t, "one pair of so many bytes", listOf(leaf(append([]byte{0x20}, fill(n)...)...), leaf(fill(m)...)), pair)
		}
	}
	// Be it short or long: the root is the hash of the first node.
	wantBytes(t, "RootOf a short node", impl.RootOf([]impl.Pair{digitPair("", 5)}), impl.OK, impl.KeccakOf([]byte{0xc2, 0x20, 5}).Bytes)
}

func TestP14RootOfKeysThatPart(t *testing.T) {
	wantNode(t, "keys that part at the first half byte", branchOf(nil, map[int]tree{1: endOf("2", 1), 15: endOf("2", 2)}), digitPair("12", 1), digitPair("f2", 2))
	wantNode(t, "keys that part within a byte", pathTo("1", branchOf(nil, map[int]tree{2: endOf("", 1), 3: endOf("", 2)})), digitPair("12", 1), digitPair("13", 2))
	wantNode(t, "keys that part behind a byte", pathTo("12", branchOf(nil, map[int]tree{0: endOf("0", 1), 15: endOf("f", 2)})), digitPair("1200", 1), digitPair("12ff", 2))
	wantNode(t, "keys that part at their last half byte", pathTo("123456789ab", branchOf(nil, map[int]tree{12: endOf("", 1), 13: endOf("", 2)})), digitPair("123456789abc", 1), digitPair("123456789abd", 2))
	deep := pathTo("23", branchOf(nil, map[int]tree{4: endOf("", 1), 5: endOf("", 2)}))
	wantNode(t, "keys that go on alike further on", branchOf(nil, map[int]tree{1: deep, 2: endOf("2", 3)}), digitPair("1234", 1), digitPair("1235", 2), digitPair("22", 3))
	inner := branchOf(nil, map[int]tree{0: endOf("", 1), 1: endOf("", 2)})
	wantNode(t, "branches side by side", branchOf(nil, map[int]tree{0: inner, 1: endOf("0", 3)}), digitPair("00", 1), digitPair("01", 2), digitPair("10", 3))
	var all []impl.Pair
	slots := map[int]tree{}
	for half := range 12 {
		all = append(all, impl.Pair{Key: []byte{byte(16*half + 15 - half)}, Value: []byte{byte(half + 120)}})
		slots[half] = endOf(allDigits[15-half:16-half], byte(half+120))
	}
	wantNode(t, "twelve pairs from one branch", branchOf(nil, slots), all...)
}

func TestP14RootOfKeysThatEndAtABranch(t *testing.T) {
	wantNode(t, "the empty key and another one", branchOf([]byte{1}, map[int]tree{10: endOf("b", 2)}), digitPair("", 1), digitPair("ab", 2))
	wantNode(t, "the empty key and two", branchOf([]byte{1}, map[int]tree{10: endOf("b", 2), 12: endOf("d", 3)}), digitPair("cd", 3), digitPair("", 1), digitPair("ab", 2))
	wantNode(t, "the empty key and two that go on alike", branchOf([]byte{1}, map[int]tree{10: branchOf(nil, map[int]tree{11: endOf("", 2), 12: endOf("", 3)})}), digitPair("ac", 3), digitPair("ab", 2), digitPair("", 1))
	wantNode(t, "a key that begins the other", pathTo("ab", branchOf([]byte{1}, map[int]tree{12: endOf("d", 2)})), digitPair("ab", 1), digitPair("abcd", 2))
	wantNode(t, "a key that begins the other, which ends one byte later", pathTo("ab", branchOf([]byte{1}, map[int]tree{0: endOf("0", 2)})), digitPair("ab00", 2), digitPair("ab", 1))
	third := pathTo("d", branchOf([]byte{2}, map[int]tree{14: endOf("f", 3)}))
	second := branchOf([]byte{1}, map[int]tree{12: third})
	wantNode(t, "three, each beginning the next one", pathTo("ab", leaf(hashOfTree(second)...)), digitPair("ab", 1), digitPair("abcd", 2), digitPair("abcdef", 3))
	long := fill(60)
	wantNode(t, "a long value at a branch", pathTo("ab", standAs(branchOf(long, map[int]tree{12: endOf("d", 2)}))), impl.Pair{Key: unhex("ab"), Value: long}, digitPair("abcd", 2))
	wantNode(t, "a zero at a branch", branchOf([]byte{0}, map[int]tree{0: endOf("0", 0)}), digitPair("", 0), digitPair("00", 0))
}

// A node of 31 bytes stands in another one as it is, of one of 32 its hash does.
func TestP14RootOfNodesOf31And32Bytes(t *testing.T) {
	rows := []struct {
		node tree
		size int
	}{
		{endOf("2", fill(28)...), 31}, {endOf("2", fill(29)...), 32}, {endOf("2", fill(30)...), 33},
		{endOf("234", fill(26)...), 31}, {endOf("234", fill(27)...), 32},
	}
	for _, row := range rows {
		if n := len(row.node.bytes()); n != row.size {
			t.Fatalf("a node has %d bytes, want %d", n, row.size)
		}
		part := row.node
		if row.size > 31 {
			part = leaf(hashOfTree(row.node)...)
		}
		key := "1" + hex.EncodeToString(row.node.parts[0].data)[1:]
		wantNode(t, "an end behind a branch", branchOf(nil, map[int]tree{1: part, 3: endOf("0", 9)}), impl.Pair{Key: unhex(key), Value: row.node.parts[1].data}, digitPair("30", 9))
	}
	for n, hashed := range map[int]bool{9: false, 10: true, 11: true} {
		node := branchOf(nil, map[int]tree{2: endOf("", 1), 3: endOf("", fill(n)...)})
		if size := len(node.bytes()); size != n+22 {
			t.Fatalf("a branch has %d bytes", size)
		}
		part := node
		if hashed {
			part = leaf(hashOfTree(node)...)
		}
		wantNode(t, "a branch behind a path", pathTo("1", part), digitPair("12", 1), impl.Pair{Key: []byte{0x13}, Value: fill(n)})
		wantNode(t, "a branch behind a branch", branchOf([]byte{7}, map[int]tree{1: part}), digitPair("12", 1), impl.Pair{Key: []byte{0x13}, Value: fill(n)}, digitPair("", 7))
		value := fill(n - 4)
		path := pathTo("00", branchOf(nil, map[int]tree{2: endOf("", 1), 3: endOf("", value...)}))
		part = path
		if hashed {
			part = leaf(hashOfTree(path)...)
		}
		if size := len(path.bytes()); size != n+22 {
			t.Fatalf("a path has %d bytes", size)
		}
		wantNode(t, "a path behind a branch", branchOf([]byte{7}, map[int]tree{1: part}), digitPair("1002", 1), impl.Pair{Key: unhex("1003"), Value: value}, digitPair("", 7))
	}
}

// deepPairs make a node that is as deep as one can be: lists within lists, none of which needs a hash.
func deepPairs() []impl.Pair {
	return []impl.Pair{digitPair("0000", 1), digitPair("0001", 2), digitPair("10", 3)}
}

// widePairs make one with as many items as there can be.
func widePairs() []impl.Pair {
	var pairs []impl.Pair
	for half := range byte(6) {
		pairs = append(pairs, impl.Pair{Key: []byte{17 * half, 0}, Value: []byte{1}}, impl.Pair{Key: []byte{17 * half, 16}, Value: []byte{2}})
	}
	return pairs
}

// heavyPairs make the longest nodes: each value is long, and so is each node.
func heavyPairs() []impl.Pair {
	pairs := []impl.Pair{{Value: fill(60)}}
	for half := range byte(11) {
		pairs = append(pairs, impl.Pair{Key: []byte{17 * half, 1, 2, 3, 4, 5}, Value: fill(60)})
	}
	return pairs
}

func TestP14RootOfExtremes(t *testing.T) {
	inner := pathTo("00", branchOf(nil, map[int]tree{0: endOf("", 1), 1: endOf("", 2)}))
	wantNode(t, "lists within lists", branchOf(nil, map[int]tree{0: inner, 1: endOf("0", 3)}), deepPairs()...)
	slots := map[int]tree{}
	for half := range 6 {
		slots[half] = pathTo(allDigits[half:half+1], branchOf(nil, map[int]tree{0: endOf("0", 1), 1: endOf("0", 2)}))
	}
	node := branchOf(nil, slots)
	wantNode(t, "many items", node, widePairs()...)
	if n := len(node.items()); n < 150 || n > 200 {
		t.Errorf("there are %d items", n)
	}
	slots = map[int]tree{}
	for half := range 11 {
		slots[half] = leaf(hashOfTree(endOf(allDigits[half:half+1]+"0102030405", fill(60)...))...)
	}
	wantNode(t, "many hashes", branchOf(fill(60), slots), heavyPairs()...)
}

// permutations are all orders of pairs.
func permutations(pairs []impl.Pair) [][]impl.Pair {
	if len(pairs) == 0 {
		return [][]impl.Pair{nil}
	}
	var all [][]impl.Pair
	for at := range pairs {
		rest := slices.Delete(slices.Clone(pairs), at, at+1)
		for _, order := range permutations(rest) {
			all = append(all, append([]impl.Pair{pairs[at]}, order...))
		}
	}
	return all
}

// pairSets are pairs of every kind that the chapter tells apart.
func pairSets() map[string][]impl.Pair {
	return map[string][]impl.Pair{
		"none":             nil,
		"the empty key":    {digitPair("", 5)},
		"one":              {textPair("A", strings.Repeat("a", 50))},
		"puppies":          {textPair("do", "verb"), textPair("horse", "stallion"), textPair("doge", "coin"), textPair("dog", "puppy")},
		"foo":              {textPair("foo", "bar"), textPair("food", "bass")},
		"small":            {textPair("be", "e"), textPair("dog", "puppy"), textPair("bed", "d")},
		"in each other":    {digitPair("", 1), digitPair("ab", 2), digitPair("abcd", 3), digitPair("abcdef", 4)},
		"long and in them": {{Value: fill(60)}, {Key: unhex("ab"), Value: fill(59)}, {Key: unhex("abcd"), Value: fill(58)}, {Key: unhex("abcdef"), Value: fill(57)}, {Key: unhex("abcdefab"), Value: fill(56)}, {Key: unhex("abcdefabcd"), Value: fill(55)}, {Key: unhex("abcdefabcdef"), Value: fill(54)}},
		"within a byte":    {digitPair("12", 1), digitPair("13", 2), {Key: []byte{0x14}, Value: fill(40)}},
		"at the end":       {{Key: unhex("123456789abc"), Value: fill(50)}, {Key: unhex("123456789abd"), Value: fill(49)}},
		"deep":             deepPairs(),
		"wide":             widePairs(),
		"heavy":            heavyPairs(),
		"plain":            plainPairs(12),
	}
}

// somePairs have no fault; few digits, so that keys have much alike.
func somePairs(r *rand.Rand) []impl.Pair {
	var pairs []impl.Pair
	digits := []string{"01", "012", allDigits}[r.IntN(3)]
	lengths := [][]int{{0, 1, 2, 3}, {2}, {4, 5, 6}, {0, 1, 2, 3, 4, 5, 6}}[r.IntN(4)]
	values := []int{1, 1 + r.IntN(4), 60}[r.IntN(3)]
	seen := map[string]bool{}
	for range r.IntN(13) {
		var key string
		for range 2 * lengths[r.IntN(len(lengths))] {
			key += string(digits[r.IntN(len(digits))])
		}
		if !seen[key] {
			seen[key] = true
			pairs = append(pairs, impl.Pair{Key: unhex(key), Value: randomBytes(r, 1+r.IntN(values))})
		}
	}
	return pairs
}

func manyPairs(times int) [][]impl.Pair {
	var list [][]impl.Pair
	for seed := range times {
		list = append(list, somePairs(rand.New(rand.NewPCG(uint64(seed), 1313))))
	}
	return list
}

func TestP14RootOfMany(t *testing.T) {
	for call, pairs := range pairSets() {
		wantBytes(t, "RootOf "+call, impl.RootOf(pairs), impl.OK, rootAs(pairs))
	}
	for _, pairs := range manyPairs(3000) {
		wantPairsFault(t, "some pairs", pairs, impl.OK)
	}
}

func TestP14ARootDoesNotHangOnTheOrder(t *testing.T) {
	r := rand.New(rand.NewPCG(13, 2))
	for call, pairs := range pairSets() {
		root := impl.RootOf(pairs)
		if len(pairs) <= 5 {
			for _, order := range permutations(pairs) {
				wantBytes(t, "RootOf "+call+" in another order", impl.RootOf(order), impl.OK, root.Bytes)
			}
		}
		order := clonePairs(pairs)
		for range 20 {
			r.Shuffle(len(order), func(i, j int) { order[i], order[j] = order[j], order[i] })
			wantBytes(t, "RootOf "+call+" in some order", impl.RootOf(order), impl.OK, root.Bytes)
		}
		slices.SortFunc(order, func(a, b impl.Pair) int { return bytes.Compare(a.Key, b.Key) })
		wantBytes(t, "RootOf "+call+", rising", impl.RootOf(order), impl.OK, root.Bytes)
		slices.Reverse(order)
		wantBytes(t, "RootOf "+call+", falling", impl.RootOf(order), impl.OK, root.Bytes)
	}
}

// Whatever else is changed, the root is another one.
func TestP14ARootHangsOnAllPairs(t *testing.T) {
	for call, pairs := range pairSets() {
		root := impl.RootOf(pairs).Bytes
		for at, pair := range pairs {
			changed := [][]impl.Pair{
				slices.Delete(slices.Clone(pairs), at, at+1),
				withPair(pairs, at, impl.Pair{Key: pair.Key, Value: flipped(pair.Value, 0)}),
				withPair(pairs, at, impl.Pair{Key: pair.Key, Value: append(bytes.Clone(pair.Value[:min(59, len(pair.Value))]), 0)}),
				withPair(pairs, at, impl.Pair{Key: append([]byte{255}, pair.Key[:min(5, len(pair.Key))]...), Value: pair.Value}),
			}
			for _, other := range changed {
				if impl.PairsFault(other) == impl.OK && bytes.Equal(impl.RootOf(other).Bytes, root) && !samePairs(other, pairs) {
					t.Errorf("%s, changed at %d: the root is the same", call, at)
				}
			}
		}
	}
}

func samePairs(a []impl.Pair, b []impl.Pair) bool {
	return slices.EqualFunc(a, b, func(a, b impl.Pair) bool { return bytes.Equal(a.Key, b.Key) && bytes.Equal(a.Value, b.Value) })
}
