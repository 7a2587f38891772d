package tests

import (
	"bytes"
	"encoding/hex"
	"math/rand/v2"
	"slices"
	"strings"
	"testing"

	"loop.example/g00383/impl"
)

const mostNodes = 14
const mostNodeBytes = 600

// treeAt is the item at a place with all that is in it.
func treeAt(items []impl.Item, at int) tree {
	tr := tree{list: items[at].List, data: items[at].Bytes}
	for place, item := range items {
		if item.Parent == int64(at) {
			tr.parts = append(tr.parts, treeAt(items, place))
		}
	}
	return tr
}

// told is what a node says of the digits that are left of a key: that it is none; or the value, or that there is none; or what stands for the next node, and the digits that are left then.
type told struct {
	wrong bool
	done  bool
	value []byte
	next  tree
	left  string
}

// isStandIn: a list, or a hash.
func isStandIn(tr tree) bool {
	return tr.list || len(tr.data) == 32
}

func pathNodeAs(node tree, left string) told {
	first, second := node.parts[0], node.parts[1]
	code, path, end := unpackAs(first.data)
	digits := ""
	for _, half := range path {
		digits += allDigits[half : half+1]
	}
	switch {
	case first.list || code != impl.OK:
		return told{wrong: true}
	case end && (second.list || len(second.data) == 0):
		return told{wrong: true}
	case end && digits == left:
		return told{done: true, value: second.data}
	case end:
		return told{done: true}
	case digits == "" || !isStandIn(second):
		return told{wrong: true}
	}
	rest, goesOn := strings.CutPrefix(left, digits)
	return told{done: !goesOn, next: second, left: rest}
}

func branchNodeAs(node tree, left string) told {
	if node.parts[16].list {
		return told{wrong: true}
	}
	if left == "" {
		return told{done: true, value: node.parts[16].data}
	}
	part := node.parts[strings.Index(allDigits, left[:1])]
	empty := !part.list && len(part.data) == 0
	return told{wrong: !empty && !isStandIn(part), done: empty, next: part, left: left[1:]}
}

func nodeToldAs(node tree, left string) told {
	switch {
	case node.list && len(node.parts) == 2:
		return pathNodeAs(node, left)
	case node.list && len(node.parts) == 17:
		return branchNodeAs(node, left)
	}
	return told{wrong: true}
}

// checkAs is what the chapter says that CheckKey is.
func checkAs(root []byte, key []byte, nodes [][]byte) impl.TrieResult {
	tooLong := func(data []byte) bool { return len(data) > mostNodeBytes }
	switch {
	case len(root) != 32 || len(key) > 6:
		return impl.TrieResult{Code: impl.ErrForm}
	case len(nodes) > mostNodes || slices.ContainsFunc(nodes, tooLong):
		return impl.TrieResult{Code: impl.ErrMany}
	case len(nodes) == 0 && bytes.Equal(root, rootAs(nil)):
		return impl.TrieResult{}
	}
	stand, left, used := leaf(root...), hex.EncodeToString(key), 0
	for {
		node := stand
		if !stand.list {
			if used == len(nodes) {
				return impl.TrieResult{Code: impl.ErrNone}
			}
			if !bytes.Equal(impl.KeccakOf(nodes[used]).Bytes, stand.data) {
				return impl.TrieResult{Code: impl.ErrSign}
			}
			read := impl.DecodeItems(nodes[used])
			if read.Code != impl.OK {
				return impl.TrieResult{Code: impl.ErrText}
			}
			node = treeAt(read.Items, 0)
			used++
		}
		says := nodeToldAs(node, left)
		switch {
		case says.wrong:
			return impl.TrieResult{Code: impl.ErrText}
		case says.done && used < len(nodes):
			return impl.TrieResult{Code: impl.ErrMany}
		case says.done:
			return impl.TrieResult{Found: len(says.value) > 0, Value: says.value}
		}
		stand, left = says.next, says.left
	}
}

// link makes a node around what stands for the next one.
type link func(next tree) tree

func byPath(digits string) link {
	return func(next tree) tree { return pathTo(digits, next) }
}

func byBranch(half int, value ...byte) link {
	return func(next tree) tree { return branchOf(value, map[int]tree{half: next}) }
}

// linked are nodes, the last one and those that lead to it, each by the hash of the next one; and the root.
func linked(last tree, links ...link) ([]byte, [][]byte) {
	return linkedTo(last.bytes(), links...)
}

// linkedTo has a last node that need not even be an item.
func linkedTo(last []byte, links ...link) ([]byte, [][]byte) {
	nodes := [][]byte{last}
	for _, around := range slices.Backward(links) {
		nodes = slices.Insert(nodes, 0, around(leaf(impl.KeccakOf(nodes[0]).Bytes...)).bytes())
	}
	return impl.KeccakOf(nodes[0]).Bytes, nodes
}

// wantChecked holds CheckKey against what the test wants, and that against the chapter.
func wantChecked(t *testing.T, call string, root []byte, key []byte, nodes [][]byte, want impl.TrieResult) {
	t.Helper()
	if told := checkAs(root, key, nodes); !sameTrie(told, want) {
		t.Fatalf("%s: by the chapter it is %+v, the test wants %+v", call, told, want)
	}
	wantTrie(t, "CheckKey of "+call, impl.CheckKey(root, key, nodes), want)
}

func wantCheckCode(t *testing.T, call string, root []byte, key []byte, nodes [][]byte, code int64) {
	t.Helper()
	wantChecked(t, call, root, key, nodes, impl.TrieResult{Code: code})
}

func foundAs(value ...byte) impl.TrieResult {
	return impl.TrieResult{Found: true, Value: value}
}

func TestP14CheckKeyRootsAndKeys(t *testing.T) {
	root, nodes := linked(endOf("2", 7), byBranch(1))
	wantChecked(t, "a right proof", root, unhex("12"), nodes, foundAs(7))
	for _, n := range []int{0, 1, 30, 31, 33, 34, 64, 256, 288, 1200} {
		wrong := append(bytes.Clone(root), make([]byte, 1200)...)[:n]
		wantCheckCode(t, "a root of so many bytes", wrong, unhex("12"), nodes, impl.ErrForm)
		wantCheckCode(t, "a root of so many bytes and no nodes", wrong, unhex("12"), nil, impl.ErrForm)
		wantCheckCode(t, "a root of no pairs of so many bytes", append(rootAs(nil), make([]byte, 1200)...)[:n], nil, nil, impl.ErrForm)
	}
	long, nodes := linked(endOf("34567890a", 7), byBranch(1), byBranch(2), byBranch(3))
	wantChecked(t, "a key of six bytes", long, unhex("12334567890a"), nodes, foundAs(7))
	wantChecked(t, "a key of six bytes that is not there", long, unhex("12334567890b"), nodes, impl.TrieResult{})
	for _, more := range []string{"00", "0000", strings.Repeat("00", 250), strings.Repeat("00", 256), strings.Repeat("00", 2000)} {
		wantCheckCode(t, "too long a key", long, unhex("12334567890a"+more), nodes, impl.ErrForm)
		wantCheckCode(t, "too long a key and no nodes", long, unhex("12334567890a"+more), nil, impl.ErrForm)
		wantCheckCode(t, "too long a key and the root of no pairs", rootAs(nil), unhex("12334567890a"+more), nil, impl.ErrForm)
	}
}

func TestP14CheckKeyWithoutNodes(t *testing.T) {
	for n := range 7 {
		wantChecked(t, "no nodes and the root of no pairs", rootAs(nil), fill(n), nil, impl.TrieResult{})
		wantChecked(t, "no nodes and the root of no pairs", rootAs(nil), fill(n), [][]byte{}, impl.TrieResult{})
		for _, root := range [][]byte{make([]byte, 32), fill(32), flipped(rootAs(nil), 0), flipped(rootAs(nil), 255), rootAs(plainPairs(3)), impl.KeccakOf(nil).Bytes, impl.KeccakOf([]byte{0xc0}).Bytes} {
			wantCheckCode(t, "no nodes and another root", root, fill(n), nil, impl.ErrNone)
		}
	}
	wantCheckCode(t, "the root of no pairs and what it is the hash of", rootAs(nil), nil, [][]byte{{0x80}}, impl.ErrText)
	wantCheckCode(t, "the root of no pairs and an empty node", rootAs(nil), nil, [][]byte{{}}, impl.ErrSign)
	wantCheckCode(t, "the root of no pairs and a node", rootAs(nil), unhex("12"), [][]byte{endOf("12", 7).bytes()}, impl.ErrSign)
}

func TestP14CheckKeyTooManyNodes(t *testing.T) {
	root, right := linked(endOf("2", 7), byBranch(1))
	for count := 3; count <= mostNodes; count++ {
		nodes := append(slices.Clone(right), slices.Repeat([][]byte{{0x80}}, count-2)...)
		wantCheckCode(t, "nodes behind a proof", root, unhex("12"), nodes, impl.ErrMany)
		slices.Reverse(nodes)
		wantCheckCode(t, "so many nodes, the first one another", root, unhex("12"), nodes, impl.ErrSign)
	}
	for _, count := range []int{15, 16, 30, 256, 270, 5000} {
		nodes := append(slices.Clone(right), make([][]byte, count-2)...)
		wantCheckCode(t, "too many nodes", root, unhex("12"), nodes, impl.ErrMany)
		slices.Reverse(nodes)
		wantCheckCode(t, "too many nodes, the first one another", root, unhex("12"), nodes, impl.ErrMany)
	}
	// Twelve half bytes lead through thirteen nodes at most.
	root, nodes := linked(endOf("", 7), slices.Repeat([]link{byBranch(5)}, 12)...)
	wantChecked(t, "thirteen nodes", root, unhex("555555555555"), nodes, foundAs(7))
	wantCheckCode(t, "fourteen nodes", root, unhex("555555555555"), append(nodes, []byte{0xc0}), impl.ErrMany)
}

// sizedBranch has so many bytes; its value is 7, and at the half byte 1 is an end of 2.
func sizedBranch(size int) tree {
	parts := map[int]tree{1: endOf("2", 7)}
	node := branchOf([]byte{7}, parts)
	for fillers := 3; fillers < 16 && len(node.bytes()) < size; fillers++ {
		for n := 0; n <= 300 && len(node.bytes()) < size; n++ {
			parts[fillers] = leaf(fill(n)...)
			node = branchOf([]byte{7}, parts)
		}
	}
	return node
}

func TestP14CheckKeyTooLongNodes(t *testing.T) {
	for _, size := range []int{31, 32, 255, 256, 300, 599, 600} {
		node := sizedBranch(size)
		if n := len(node.bytes()); n != size {
			t.Fatalf("a node has %d bytes, not %d", n, size)
		}
		root, nodes := linked(node)
		wantChecked(t, "a node of so many bytes", root, unhex("12"), nodes, foundAs(7))
		wantChecked(t, "a node of so many bytes, a key that ends", root, nil, nodes, foundAs(7))
		root, nodes = linked(node, byPath("ab"))
		wantChecked(t, "a second node of so many bytes", root, unhex("ab12"), nodes, foundAs(7))
	}
	for _, size := range []int{601, 602, 856, 1200} {
		node := sizedBranch(size)
		if n := len(node.bytes()); n != size {
			t.Fatalf("a node has %d bytes, not %d", n, size)
		}
		root, nodes := linked(node)
		wantCheckCode(t, "too long a node", root, unhex("12"), nodes, impl.ErrMany)
		root, nodes = linked(node, byPath("ab"))
		wantCheckCode(t, "too long a second node", root, unhex("ab12"), nodes, impl.ErrMany)
		wantCheckCode(t, "too long a second node that is not needed", root, unhex("bb12"), nodes, impl.ErrMany)
	}
	root, nodes := linked(endOf("12", 7))
	for at := range mostNodes {
		many := slices.Insert(slices.Repeat([][]byte{nodes[0]}, at), at, make([]byte, 601))
		wantCheckCode(t, "a long node at some place", root, unhex("12"), many, impl.ErrMany)
		wantCheckCode(t, "a long node of no proof", make([]byte, 32), unhex("12"), many, impl.ErrMany)
	}
	wantCheckCode(t, "a node of 1201 bytes", impl.KeccakOf(nil).Bytes, nil, [][]byte{make([]byte, 1201)}, impl.ErrMany)
	wantCheckCode(t, "a node of many bytes", impl.KeccakOf(nil).Bytes, nil, [][]byte{make([]byte, 1<<16)}, impl.ErrMany)
}

func TestP14CheckKeyHashes(t *testing.T) {
	root, nodes := linked(endOf("4", 7), byBranch(1), byPath("2"), byBranch(3))
	key := unhex("1234")
	wantChecked(t, "a right proof", root, key, nodes, foundAs(7))
	wantChecked(t, "a proof of its own in it", impl.KeccakOf(nodes[2]).Bytes, unhex("34"), nodes[2:], foundAs(7))
	for bit := range 256 {
		wantCheckCode(t, "another root", flipped(root, bit), key, nodes, impl.ErrSign)
	}
	for at := range nodes {
		for bit := range 8 * len(nodes[at]) {
			changed := slices.Clone(nodes)
			changed[at] = flipped(nodes[at], bit)
			wantCheckCode(t, "a node that is another one", root, key, changed, impl.ErrSign)
		}
		for _, other := range [][]byte{nil, nodes[at][1:], append(bytes.Clone(nodes[at]), 0), nodes[(at+1)%4], {0x80}, {0xc0}, fill(600)} {
			changed := slices.Clone(nodes)
			changed[at] = other
			wantCheckCode(t, "other bytes for a node", root, key, changed, impl.ErrSign)
		}
		wantCheckCode(t, "too few nodes", root, key, nodes[:at], impl.ErrNone)
		if at > 0 {
			swapped := slices.Clone(nodes)
			swapped[at-1], swapped[at] = swapped[at], swapped[at-1]
			wantCheckCode(t, "nodes in another order", root, key, swapped, impl.ErrSign)
			wantCheckCode(t, "nodes without the first ones", root, key, nodes[at:], impl.ErrSign)
		}
		wantCheckCode(t, "a node twice", root, key, slices.Insert(slices.Clone(nodes), at, nodes[at]), map[bool]int64{true: impl.ErrMany, false: impl.ErrSign}[at == 3])
	}
}

func TestP14CheckKeyNodesThatAreNotNeeded(t *testing.T) {
	root, nodes := linked(endOf("4", 7), byBranch(1, 9), byPath("2"), byBranch(3))
	rows := []struct {
		call   string
		digits string
		needed int
		want   impl.TrieResult
	}{
		{"behind an end", "1234", 4, foundAs(7)}, {"behind an end that is not what is left", "1235", 4, impl.TrieResult{}}, {"behind an end that is shorter", "123400", 4, impl.TrieResult{}},
		{"where the key ends with a value", "", 1, foundAs(9)}, {"where nothing stands", "22", 1, impl.TrieResult{}}, {"where the path parts", "13", 2, impl.TrieResult{}},
		{"where the key ends at a branch", "12", 3, impl.TrieResult{}}, {"where nothing stands further on", "1244", 3, impl.TrieResult{}},
	}
	for _, row := range rows {
		wantChecked(t, row.call, root, unhex(row.digits), nodes[:row.needed], row.want)
		for needed := range row.needed {
			wantCheckCode(t, row.call+", too few", root, unhex(row.digits), nodes[:needed], impl.ErrNone)
		}
		for count := row.needed + 1; count <= len(nodes); count++ {
			wantCheckCode(t, row.call+", the others too", root, unhex(row.digits), nodes[:count], impl.ErrMany)
		}
		for _, more := range [][]byte{nil, {}, {0x80}, {0xc0}, nodes[0], nodes[row.needed-1], endOf("", 1).bytes(), fill(600)} {
			wantCheckCode(t, row.call+", one more", root, unhex(row.digits), append(slices.Clone(nodes[:row.needed]), more), impl.ErrMany)
			wantCheckCode(t, row.call+", two more", root, unhex(row.digits), append(slices.Clone(nodes[:row.needed]), more, more), impl.ErrMany)
		}
	}
	// The one list leads to the next node, however much more there is.
	root, nodes = linked(pathTo("12", endOf("34", 7)))
	wantChecked(t, "a list in a list", root, unhex("1234"), nodes, foundAs(7))
	wantCheckCode(t, "a list in a list, told once more", root, unhex("1234"), append(nodes, endOf("34", 7).bytes()), impl.ErrMany)
}

// anywhere asks with nodes whose last one is told: alone, behind others that lead to it by its hash, and as a list in a list.
func anywhere(t *testing.T, call string, last tree, digits string, want impl.TrieResult) {
	t.Helper()
	root, nodes := linked(last)
	wantChecked(t, call, root, unhex(digits), nodes, want)
	root, nodes = linked(last, byPath("ab"))
	wantChecked(t, call+" behind a path", root, unhex("ab"+digits), nodes, want)
	root, nodes = linked(last, byBranch(10), byBranch(11))
	wantChecked(t, call+" behind branches", root, unhex("ab"+digits), nodes, want)
	if last.list && last.depth() < 5 {
		root, nodes = linked(pathTo("ab", last))
		wantChecked(t, call+" as a list behind a path", root, unhex("ab"+digits), nodes, want)
		root, nodes = linked(branchOf(nil, map[int]tree{11: last}), byBranch(10))
		wantChecked(t, call+" as a list behind a branch", root, unhex("ab"+digits), nodes, want)
	}
	if last.list && last.depth() < 4 {
		root, nodes = linked(branchOf(nil, map[int]tree{10: pathTo("b", last)}))
		wantChecked(t, call+" as a list in lists", root, unhex("ab"+digits), nodes, want)
	}
}

// depth is how many items there are from the deepest one up to this one, both too.
func (tr tree) depth() int {
	deep := 0
	for _, part := range tr.parts {
		deep = max(deep, part.depth())
	}
	return 1 + deep
}

func noNode(t *testing.T, call string, last tree, digits string) {
	t.Helper()
	anywhere(t, call, last, digits, impl.TrieResult{Code: impl.ErrText})
}

func TestP14CheckKeyNodesThatAreNoList(t *testing.T) {
	for _, data := range [][]byte{{}, {0x80}, {1}, {0xc1}, {0xc0, 0xc0}, {0xff}, fill(32), fill(600), make([]byte, 600), endOf("12", 7).bytes()[1:], append(endOf("12", 7).bytes(), 0), {0xc3, 0x81, 0x20, 7}, {0xf8, 2, 0x20, 7}} {
		root, nodes := linkedTo(data)
		wantCheckCode(t, "bytes that are no items", root, unhex("12"), nodes, impl.ErrText)
		root, nodes = linkedTo(data, byPath("ab"), byBranch(1))
		wantCheckCode(t, "bytes that are no items further on", root, unhex("ab12"), nodes, impl.ErrText)
		wantChecked(t, "bytes that are no items and not needed", root, unhex("ba12"), nodes[:1], impl.TrieResult{})
	}
	for _, data := range [][]byte{nil, {0x20}, {0x20, 0x12}, fill(31), fill(32), fill(33), endOf("12", 7).bytes()} {
		root, nodes := linked(leaf(data...))
		wantCheckCode(t, "bytes, not a list", root, unhex("12"), nodes, impl.ErrText)
		root, nodes = linked(leaf(data...), byPath("ab"))
		wantCheckCode(t, "bytes, not a list, behind a path", root, unhex("ab12"), nodes, impl.ErrText)
	}
	root, nodes := linked(pathTo("12", nested(4, leaf(1))))
	wantCheckCode(t, "lists that are too deep", root, unhex("12"), nodes, impl.ErrText)
	wantCheckCode(t, "lists that are too deep and not needed", root, unhex("21"), nodes, impl.ErrText)
	root, nodes = linked(branchOf([]byte{7}, map[int]tree{3: leaf(fill(301)...)}))
	wantCheckCode(t, "a part of 301 bytes", root, nil, nodes, impl.ErrText)
	root, nodes = linked(branchOf([]byte{7}, map[int]tree{3: leaf(fill(300)...)}))
	wantChecked(t, "a part of 300 bytes", root, nil, nodes, foundAs(7))
	root, nodes = linked(branchOf([]byte{7}, map[int]tree{3: repeated(leaf(1), 182)}))
	wantChecked(t, "200 items", root, nil, nodes, foundAs(7))
	root, nodes = linked(branchOf([]byte{7}, map[int]tree{3: repeated(leaf(1), 183)}))
	wantCheckCode(t, "201 items", root, nil, nodes, impl.ErrText)
}

func TestP14CheckKeyListsOfOtherLengths(t *testing.T) {
	for n := range 40 {
		if n == 2 || n == 17 {
			continue
		}
		parts := []tree{leaf(), leaf(0x20), listOf()}
		if n < 17 {
			parts = append(parts, leaf(fill(32)...)) // more of these are too long for a node
		}
		for _, part := range parts {
			noNode(t, "a list of another length", repeated(part, n), "12")
			noNode(t, "a list of another length where the key ends", repeated(part, n), "")
		}
	}
	end, branch := endOf("12", 7), branchOf([]byte{7}, map[int]tree{1: endOf("2", 7)})
	for at := range 2 {
		noNode(t, "an end of one part", listOf(end.parts[at]), "12")
		noNode(t, "an end of three parts", listOf(slices.Insert(slices.Clone(end.parts), at, end.parts[at])...), "12")
	}
	noNode(t, "an end and nothing behind", end.with(leaf()), "12")
	for _, digits := range []string{"", "12", "00"} {
		noNode(t, "a branch of 16", listOf(branch.parts[:16]...), digits)
		noNode(t, "a branch of 16, the first one gone", listOf(branch.parts[1:]...), digits)
		noNode(t, "a branch of 18", branch.with(leaf()), digits)
		noNode(t, "a branch of 18 with another value", branch.with(leaf(8)), digits)
	}
	// Taken for one flat list, these would have as many parts.
	noNode(t, "an end in a list", listOf(end), "12")
	noNode(t, "a list of two items, one in the other", listOf(listOf(leaf(7))), "12")
	noNode(t, "a branch in lists", listOf(listOf(branch.parts[:8]...), listOf(branch.parts[8:]...), leaf()), "")
}

func TestP14CheckKeyPathsThatAreNone(t *testing.T) {
	for b := range 256 {
		for _, more := range [][]byte{nil, {0x12}} {
			data := append([]byte{byte(b)}, more...)
			if code, _, _ := unpackAs(data); code == impl.OK {
				continue
			}
			noNode(t, "bytes that are no path", listOf(leaf(data...), leaf(7)), "12")
			noNode(t, "bytes that are no path, ahead of a hash", listOf(leaf(data...), leaf(fill(32)...)), "12")
			noNode(t, "bytes that are no path, ahead of a list", listOf(leaf(data...), endOf("", 7)), "")
		}
	}
	for _, data := range [][]byte{{}, {0x40}, {0x21, 0x12}, {0x2f}, {0x0f, 0x12}, append([]byte{0x20}, fill(11)...), append([]byte{0x31}, fill(10)...), append([]byte{0}, fill(11)...), fill(300)} {
		noNode(t, "bytes that are no path", listOf(leaf(data...), leaf(7)), "12")
		noNode(t, "bytes that are no path, ahead of a hash", listOf(leaf(data...), leaf(fill(32)...)), "12")
	}
	for _, part := range []tree{listOf(), listOf(leaf(0x20)), listOf(leaf(0x20), leaf(0x12)), endOf("12", 7)} {
		noNode(t, "a list for a path", listOf(part, leaf(7)), "12")
		noNode(t, "a list for a path, ahead of a hash", listOf(part, leaf(fill(32)...)), "12")
		noNode(t, "a list for a path, ahead of nothing", listOf(part, leaf()), "")
	}
}

func TestP14CheckKeyEnds(t *testing.T) {
	for _, value := range [][]byte{{0}, {1}, {127}, {128}, fill(2), fill(31), fill(32), fill(33), fill(55), fill(56), fill(60), fill(61), fill(300)} {
		anywhere(t, "an end", endOf("12", value...), "12", foundAs(value...))
		anywhere(t, "an end of nothing left", endOf("", value...), "", foundAs(value...))
		for _, digits := range []string{"", "13", "22", "10", "1200", "1212", "00"} {
			anywhere(t, "an end that is not what is left", endOf("12", value...), digits, impl.TrieResult{})
		}
		for _, digits := range []string{"00", "12", "1234"} {
			anywhere(t, "an end where nothing may be left", endOf("", value...), digits, impl.TrieResult{})
		}
	}
	anywhere(t, "a longer path than any key", endOf(someDigits(20), 7), "12", impl.TrieResult{})
	anywhere(t, "a longer path than any key that begins so", endOf("1234"+someDigits(16), 7), "1234", impl.TrieResult{})
	root, nodes := linked(endOf("2", 7), byBranch(1))
	wantChecked(t, "an end of an odd path", root, unhex("12"), nodes, foundAs(7))
	wantChecked(t, "an end of an odd path that parts", root, unhex("13"), nodes, impl.TrieResult{})
	for _, digits := range []string{"12", "", "13", "1200"} {
		noNode(t, "an end without a value", endOf("12"), digits)
		for _, list := range []tree{listOf(), listOf(leaf(7)), endOf("", 7), branchOf([]byte{7}, nil), repeated(leaf(1), 32)} {
			noNode(t, "an end with a list", listOf(leaf(packAs("12", true)...), list), digits)
		}
	}
	noNode(t, "an end of nothing without a value", endOf(""), "")
	noNode(t, "an end of nothing with a list", listOf(leaf(0x20), endOf("", 7)), "")
}

func TestP14CheckKeyPaths(t *testing.T) {
	next := endOf("4", 7)
	anywhere(t, "a path to a list", pathTo("123", next), "1234", foundAs(7))
	for _, digits := range []string{"", "12", "1334", "2234", "1244", "ffff", "00"} {
		anywhere(t, "a path that does not go on so", pathTo("123", next), digits, impl.TrieResult{})
		anywhere(t, "a path to a hash that does not go on so", pathTo("123", leaf(hashOfTree(next)...)), digits, impl.TrieResult{})
		anywhere(t, "a path to any hash that does not go on so", pathTo("123", leaf(fill(32)...)), digits, impl.TrieResult{})
		for _, n := range []int{0, 1, 2, 30, 31, 33, 34, 64, 288} {
			noNode(t, "a path to so many bytes that does not go on so", pathTo("123", leaf(fill(n)...)), digits)
		}
	}
	anywhere(t, "a path that is the key, to a branch", pathTo("12", branchOf([]byte{7}, nil)), "12", foundAs(7))
	anywhere(t, "a path that is the key, to a branch without a value", pathTo("12", branchOf(nil, map[int]tree{1: next})), "12", impl.TrieResult{})
	anywhere(t, "a path that is the key, to an end of nothing", pathTo("12", endOf("", 7)), "12", foundAs(7))
	anywhere(t, "a path that is the key, to an end of something", pathTo("12", endOf("3", 7)), "12", impl.TrieResult{})
	anywhere(t, "a path to a path", pathTo("1", pathTo("2", endOf("34", 7))), "1234", foundAs(7))
	anywhere(t, "a path longer than any key", pathTo(someDigits(20), next), "1234", impl.TrieResult{})
	anywhere(t, "a path to a hash, no nodes left", pathTo("12", leaf(hashOfTree(next)...)), "1234", impl.TrieResult{Code: impl.ErrNone})
	anywhere(t, "a path that is the key to a hash, no nodes left", pathTo("12", leaf(hashOfTree(next)...)), "12", impl.TrieResult{Code: impl.ErrNone})
	for _, digits := range []string{"", "12", "1234"} {
		noNode(t, "an empty path to a list", pathTo("", next), digits)
		noNode(t, "an empty path to a hash", pathTo("", leaf(fill(32)...)), digits)
		noNode(t, "an empty path to bytes", pathTo("", leaf(7)), digits)
	}
	for _, n := range []int{0, 1, 2, 30, 31, 33, 34, 64, 288} {
		noNode(t, "a path to so many bytes", pathTo("123", leaf(fill(n)...)), "1234")
		noNode(t, "a path that is the key to so many bytes", pathTo("12", leaf(fill(n)...)), "12")
	}
	noNode(t, "a path to an empty list", pathTo("12", listOf()), "12")
	noNode(t, "a path to a list of 3", pathTo("12", repeated(leaf(7), 3)), "12")
	anywhere(t, "a path to an empty list that is not needed", pathTo("12", listOf()), "13", impl.TrieResult{})
	anywhere(t, "a path to a list of 3 that is not needed", pathTo("12", repeated(leaf(7), 3)), "13", impl.TrieResult{})
}

func TestP14CheckKeyBranches(t *testing.T) {
	for half := range 16 {
		digits := allDigits[half:half+1] + "5"
		anywhere(t, "a branch", branchOf([]byte{9}, map[int]tree{half: endOf("5", 7)}), digits, foundAs(7))
		anywhere(t, "a branch that goes on elsewhere", branchOf([]byte{9}, map[int]tree{(half + 1) % 16: endOf("5", 7)}), digits, impl.TrieResult{})
		anywhere(t, "a branch to a hash, no nodes left", branchOf([]byte{9}, map[int]tree{half: leaf(fill(32)...)}), digits, impl.TrieResult{Code: impl.ErrNone})
		anywhere(t, "a branch whose other hash is not asked", branchOf([]byte{9}, map[int]tree{(half + 1) % 16: leaf(fill(32)...)}), digits, impl.TrieResult{})
		root, nodes := linked(endOf("5", 7), byBranch(half))
		wantChecked(t, "a branch to a hash", root, unhex(digits), nodes, foundAs(7))
		wantCheckCode(t, "a branch to a hash that is not needed", root, nil, nodes, impl.ErrMany)
		for _, n := range []int{1, 2, 30, 31, 33, 34, 64, 288} {
			wrong := branchOf([]byte{9}, map[int]tree{half: leaf(fill(n)...)})
			noNode(t, "so many bytes where the key goes on", wrong, digits)
			anywhere(t, "so many bytes where nothing of the key is left", wrong, "", foundAs(9))
			anywhere(t, "so many bytes where the key does not go on", wrong, allDigits[(half+1)%16:][:1]+"5", impl.TrieResult{})
		}
		for _, list := range []tree{listOf(), listOf(leaf(7)), repeated(leaf(7), 3)} {
			wrong := branchOf([]byte{9}, map[int]tree{half: list})
			noNode(t, "a list that is no node where the key goes on", wrong, digits)
			anywhere(t, "a list that is no node where nothing of the key is left", wrong, "", foundAs(9))
			anywhere(t, "a list that is no node where the key does not go on", wrong, allDigits[(half+1)%16:][:1]+"5", impl.TrieResult{})
		}
	}
	full := map[int]tree{}
	for half := range 16 {
		full[half] = endOf("", byte(half+1))
	}
	for half := range 16 {
		root, nodes := linked(branchOf(nil, full), byBranch(3))
		wantChecked(t, "a full branch", root, []byte{byte(3*16 + half)}, nodes, foundAs(byte(half+1)))
	}
}

func TestP14CheckKeyValuesAtABranch(t *testing.T) {
	parts := map[int]tree{1: endOf("2", 7)}
	for _, value := range [][]byte{{0}, {127}, {128}, fill(31), fill(32), fill(33), fill(60), fill(61), fill(300)} {
		anywhere(t, "a value at a branch", branchOf(value, parts), "", foundAs(value...))
		anywhere(t, "a value at a branch where the key goes on", branchOf(value, parts), "12", foundAs(7))
		anywhere(t, "a value at a branch where nothing stands", branchOf(value, parts), "22", impl.TrieResult{})
	}
	anywhere(t, "no value at a branch", branchOf(nil, parts), "", impl.TrieResult{})
	anywhere(t, "an empty branch", branchOf(nil, nil), "", impl.TrieResult{})
	anywhere(t, "an empty branch", branchOf(nil, nil), "12", impl.TrieResult{})
	for _, list := range []tree{listOf(), listOf(leaf(7)), endOf("", 7), repeated(leaf(1), 32)} {
		wrong := branchOf(nil, parts)
		wrong.parts[16] = list
		for _, digits := range []string{"", "12", "22", "13"} {
			noNode(t, "a list for a value", wrong, digits)
		}
	}
}

// A list is the next node, however long it is, and one that is told by its hash, however short.
func TestP14CheckKeyListsInLists(t *testing.T) {
	long := endOf("34", fill(60)...)
	anywhere(t, "a long list in a list", pathTo("12", long), "1234", foundAs(fill(60)...))
	anywhere(t, "a long list in a branch", branchOf(nil, map[int]tree{1: pathTo("2", endOf("34", fill(200)...))}), "1234", foundAs(fill(200)...))
	root, nodes := linked(endOf("", 7), byBranch(1), byPath("2"))
	wantChecked(t, "a short node by its hash", root, unhex("12"), nodes, foundAs(7))
	root, nodes = linked(endOf("34", 7), func(next tree) tree { return branchOf(nil, map[int]tree{1: pathTo("2", next)}) })
	wantChecked(t, "a hash in a list in a list", root, unhex("1234"), nodes, foundAs(7))
	wantCheckCode(t, "a hash in a list in a list, no nodes left", root, unhex("1234"), nodes[:1], impl.ErrNone)
	wantChecked(t, "a list in a list that parts", root, unhex("1334"), nodes[:1], impl.TrieResult{})
	wantCheckCode(t, "a list in a list that parts, all nodes", root, unhex("1334"), nodes, impl.ErrMany)
	deep := branchOf(nil, map[int]tree{1: branchOf(nil, map[int]tree{2: branchOf(nil, map[int]tree{3: endOf("4", 7)})})})
	root, nodes = linked(deep)
	wantChecked(t, "four lists in each other", root, unhex("1234"), nodes, foundAs(7))
	root, nodes = linked(branchOf(nil, map[int]tree{0: deep}))
	wantCheckCode(t, "five lists in each other", root, unhex("0123"), nodes, impl.ErrText)
}

func TestP14CheckKeyTwoCodesAtOnce(t *testing.T) {
	root, nodes := linked(endOf("4", 7), byBranch(1), byPath("2"), byBranch(3))
	key := unhex("1234")
	many, long := slices.Repeat([][]byte{{0xc0}}, 15), [][]byte{make([]byte, 601)}
	wantCheckCode(t, "a form and too many", root[1:], key, many, impl.ErrForm)
	wantCheckCode(t, "a form and too long", root[1:], key, long, impl.ErrForm)
	wantCheckCode(t, "a key and too many", root, fill(7), many, impl.ErrForm)
	wantCheckCode(t, "a key and too long", root, fill(7), long, impl.ErrForm)
	wantCheckCode(t, "root and key", root[1:], fill(7), nil, impl.ErrForm)
	wantCheckCode(t, "a form and none", root[1:], key, nil, impl.ErrForm)
	wantCheckCode(t, "too many and another hash", root, key, many, impl.ErrMany)
	wantCheckCode(t, "too long and another hash", root, key, append(long, nodes...), impl.ErrMany)
	wantCheckCode(t, "another hash and bytes that are no node", root, key, [][]byte{{0x80}, {0x80}}, impl.ErrSign)

	wrong, behind := linkedTo([]byte{0x80}, byBranch(1), byPath("2"))
	wantCheckCode(t, "another next hash and bytes that are no node", wrong, key, append(slices.Clone(behind[:2]), []byte{0xc0}), impl.ErrSign)
	wantCheckCode(t, "no node, and one too many", wrong, key, append(slices.Clone(behind), nodes...), impl.ErrText)
	wantCheckCode(t, "another hash, and one too many", root, key, append(slices.Clone(nodes[:3]), nodes...), impl.ErrSign)

	bad := func(next tree) tree { return listOf(append(pathTo("2", next).parts, leaf())...) }
	wrong, behind = linked(endOf("34", 7), byBranch(1), bad)
	for count := 2; count <= 3; count++ {
		wantCheckCode(t, "no node, and none or another one behind", wrong, key, behind[:count], impl.ErrText)
	}
	wantCheckCode(t, "no node ahead of another hash", wrong, key, append(slices.Clone(behind[:2]), nodes...), impl.ErrText)
	unlike := func(next tree) tree { return branchOf(nil, map[int]tree{2: next, 5: leaf(7)}) }
	wrong, behind = linked(endOf("34", 7), byBranch(1), unlike)
	wantCheckCode(t, "no node, and none", wrong, unhex("15"), behind[:2], impl.ErrText)
	wantCheckCode(t, "no node, and one too many", wrong, unhex("15"), behind, impl.ErrText)
	wantChecked(t, "what is wrong elsewhere", wrong, key, behind, foundAs(7))
}

// somePart is any that may stand in a node, right or wrong.
func somePart(r *rand.Rand, deep int) tree {
	switch pick := r.IntN(20); {
	case pick < 4:
		return leaf()
	case pick < 8:
		return leaf(randomBytes(r, 32)...)
	case pick < 10:
		return leaf(randomBytes(r, []int{1, 2, 31, 33}[r.IntN(4)])...)
	case pick < 12 || deep > 3:
		return leaf(packAs(hex.EncodeToString(randomBytes(r, 2))[:r.IntN(4)], r.IntN(2) == 0)...)
	}
	return someNode(r, deep+1, nil)
}

// someNode is right more often than not; what stands for the next node is in it somewhere, if there is one.
func someNode(r *rand.Rand, deep int, next *tree) tree {
	part := func() tree {
		if next != nil && r.IntN(8) > 0 {
			return *next
		}
		return somePart(r, deep)
	}
	switch pick := r.IntN(40); {
	case pick == 0:
		return repeated(part(), r.IntN(19))
	case pick == 1:
		return listOf(somePart(r, deep), part())
	case pick < 12 && next == nil:
		return endOf([]string{"", "", "0", "00", "01", "000"}[r.IntN(6)], randomBytes(r, r.IntN(4))...)
	case pick < 20:
		return pathTo([]string{"", "0", "0", "0", "00", "01", "1"}[r.IntN(7)], part())
	}
	node := branchOf(randomBytes(r, r.IntN(2)), map[int]tree{0: part()})
	if r.IntN(4) == 0 {
		node.parts[[]int{0, 1, 16}[r.IntN(3)]] = somePart(r, deep)
	}
	return node
}

// Proofs of any kind, right and wrong, are read as the chapter says.
func TestP14CheckKeyOfMany(t *testing.T) {
	codes := map[int64]int{}
	found := 0
	for seed := range uint64(20000) {
		r := rand.New(rand.NewPCG(seed, 17))
		nodes := [][]byte{someNode(r, 1, nil).bytes()}
		for range r.IntN(4) {
			hash := leaf(impl.KeccakOf(nodes[0]).Bytes...)
			nodes = slices.Insert(nodes, 0, someNode(r, 1, &hash).bytes())
		}
		if len(nodes[0]) > 1200 {
			continue
		}
		root := impl.KeccakOf(nodes[0]).Bytes
		key := [][]byte{{}, {0}, {0, 0}, {0, 0, 0}, {1}, {0, 1}}[r.IntN(6)]
		if r.IntN(30) == 0 {
			nodes[r.IntN(len(nodes))] = []byte{0x80}
		}
		want := checkAs(root, key, nodes)
		wantTrie(t, "CheckKey", impl.CheckKey(root, key, nodes), want)
		codes[want.Code]++
		if want.Found {
			found++
		}
	}
	for _, code := range []int64{impl.OK, impl.ErrMany, impl.ErrNone, impl.ErrText, impl.ErrSign} {
		if codes[code] < 100 {
			t.Errorf("the code %d is told %d times", code, codes[code])
		}
	}
	if found < 100 {
		t.Errorf("a key is found %d times", found)
	}
}
