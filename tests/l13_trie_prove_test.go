package tests

import (
	"bytes"
	"encoding/hex"
	"math/rand/v2"
	"slices"
	"testing"

	"loop.example/g00383/impl"
)

func isThere(pairs []impl.Pair, key []byte) (bool, []byte) {
	for _, pair := range pairs {
		if bytes.Equal(pair.Key, key) {
			return true, pair.Value
		}
	}
	return false, nil
}

// wantShown: the proof of a key is the one that the chapter tells, and shows what is there and what is not.
func wantShown(t *testing.T, call string, pairs []impl.Pair, key []byte) impl.ProofResult {
	t.Helper()
	call += " at " + hex.EncodeToString(key)
	got := impl.ProveKey(pairs, key)
	wantProof(t, "ProveKey of "+call, got, impl.OK, proofAs(pairs, key))
	found, value := isThere(pairs, key)
	wantTrie(t, "CheckKey of "+call, impl.CheckKey(rootAs(pairs), key, got.Nodes), impl.TrieResult{Found: found, Value: value})
	return got
}

// wantShownBy tells too how many nodes there are, and whether the key is there.
func wantShownBy(t *testing.T, call string, pairs []impl.Pair, digits string, nodes int, there bool) {
	t.Helper()
	got := wantShown(t, call, pairs, unhex(digits))
	if len(got.Nodes) != nodes {
		t.Errorf("%s: there are %d nodes, want %d", call, len(got.Nodes), nodes)
	}
	if found, _ := isThere(pairs, unhex(digits)); found != there {
		t.Errorf("%s: it is there: %v", call, found)
	}
}

func TestP14ProveKeyKnown(t *testing.T) {
	pairs := []impl.Pair{digitPair("1234", 1, 2), digitPair("1256", 3)}
	inner := branchOf(nil, map[int]tree{3: endOf("4", 1, 2), 5: endOf("6", 3)})
	node := pathTo("12", inner)
	wantProof(t, "ProveKey where no hash stands", impl.ProveKey(pairs, unhex("1234")), impl.OK, [][]byte{node.bytes()})
	pairs = append(pairs, impl.Pair{Key: unhex("129a"), Value: fill(60)})
	end := endOf("a", fill(60)...)
	inner = branchOf(nil, map[int]tree{3: endOf("4", 1, 2), 5: endOf("6", 3), 9: leaf(hashOfTree(end)...)})
	node = pathTo("12", leaf(hashOfTree(inner)...))
	wantProof(t, "ProveKey of a list in a list", impl.ProveKey(pairs, unhex("1234")), impl.OK, [][]byte{node.bytes(), inner.bytes()})
	wantProof(t, "ProveKey of hashes", impl.ProveKey(pairs, unhex("129a")), impl.OK, [][]byte{node.bytes(), inner.bytes(), end.bytes()})
	wantProof(t, "ProveKey of an end that parts", impl.ProveKey(pairs, unhex("129b")), impl.OK, [][]byte{node.bytes(), inner.bytes(), end.bytes()})
	wantProof(t, "ProveKey of what parts at the path", impl.ProveKey(pairs, unhex("1334")), impl.OK, [][]byte{node.bytes()})
	wantProof(t, "ProveKey of what ends at the branch", impl.ProveKey(pairs, unhex("12")), impl.OK, [][]byte{node.bytes(), inner.bytes()})
}

func TestP14ProveKeyOfNoPairs(t *testing.T) {
	for n := range 7 {
		wantProof(t, "ProveKey of no pairs", impl.ProveKey(nil, fill(n)), impl.OK, nil)
		wantShownBy(t, "no pairs", []impl.Pair{}, hex.EncodeToString(fill(n)), 0, false)
	}
	wantProof(t, "ProveKey of no pairs and too long a key", impl.ProveKey(nil, fill(7)), impl.ErrForm, nil)
}

func TestP14ProveKeyOfLongKeys(t *testing.T) {
	for call, pairs := range pairSets() {
		wantShown(t, call, pairs, fill(5))
		wantShown(t, call, pairs, fill(6))
		for _, n := range []int{7, 8, 20, 255, 256, 262, 1200, 1 << 16} {
			wantProof(t, "ProveKey of "+call+" and too long a key", impl.ProveKey(pairs, fill(n)), impl.ErrForm, nil)
		}
		for _, pair := range pairs {
			wantProof(t, "ProveKey of "+call+" and too much behind a key", impl.ProveKey(pairs, append(bytes.Clone(pair.Key), make([]byte, 7)...)), impl.ErrForm, nil)
		}
	}
}

func TestP14ProveKeyOfWhatIsThere(t *testing.T) {
	for call, pairs := range pairSets() {
		for _, pair := range pairs {
			wantShown(t, call, pairs, pair.Key)
		}
	}
	heavy, within := heavyPairs(), pairSets()["long and in them"]
	wantShownBy(t, "a value at the first branch", heavy, "", 1, true)
	wantShownBy(t, "an end behind the first branch", heavy, "110102030405", 2, true)
	wantShownBy(t, "keys in each other", within, "", 1, true)
	wantShownBy(t, "keys in each other", within, "ab", 3, true)
	wantShownBy(t, "keys in each other", within, "abcdef", 7, true)
	wantShownBy(t, "keys in each other", within, "abcdefabcd", 11, true)
	wantShownBy(t, "keys in each other", within, "abcdefabcdef", 12, true)
	wantShownBy(t, "lists within lists", deepPairs(), "0001", 1, true)
	wantShownBy(t, "many items", widePairs(), "5510", 1, true)
}

func TestP14ProveKeyOfWhatIsNotThere(t *testing.T) {
	long := []impl.Pair{
		{Key: unhex("1234"), Value: fill(60)}, {Key: unhex("1256"), Value: fill(59)}, {Key: unhex("1256789a"), Value: fill(58)}, {Key: unhex("12f01234"), Value: fill(57)},
	}
	rows := []struct {
		call   string
		digits string
		nodes  int
	}{
		{"it parts at the first half byte of what is alike", "22", 1}, {"it parts within what is alike", "13", 1}, {"it parts there and is long", "133412341234", 1},
		{"it ends ahead of what is alike", "", 1}, {"it ends at a branch without a value", "12", 2},
		{"nothing stands there at a branch", "1200", 2}, {"nothing stands there, and it is long", "12e012341234", 2},
		{"it parts within an end's path", "1235", 3}, {"it parts at the first half byte of an end's path", "12f11234", 3}, {"it parts at the last one", "12f01235", 3},
		{"it is shorter than an end's path", "12f0", 3}, {"it is shorter than an end's path by a byte", "12f012", 3},
		{"it is longer than a key that is there", "123400", 3}, {"it is longer than an end's path", "12f0123400", 3}, {"it is much longer", "12f012340000", 3},
		{"nothing stands behind a key that is there", "125600", 4}, {"it parts behind a key that is there", "12567899", 5}, {"it is longer than a key behind another one", "1256789a9a", 5},
		{"it is shorter than a key behind another one", "125678", 5},
	}
	for _, row := range rows {
		wantShownBy(t, row.call, long, row.digits, row.nodes, false)
	}
	short := []impl.Pair{digitPair("1234", 1), digitPair("1256", 2)}
	for _, row := range rows {
		if found, _ := isThere(short, unhex(row.digits)); !found {
			wantShownBy(t, row.call+", no hash stands there", short, row.digits, 1, false)
		}
	}
	one := []impl.Pair{digitPair("1234", 1)}
	for _, digits := range []string{"", "12", "1235", "0234", "123400", "ffff", "123412341234"} {
		wantShownBy(t, "one pair", one, digits, 1, false)
	}
	for _, digits := range []string{"00", "ff", "000000000000"} {
		wantShownBy(t, "the empty key alone", []impl.Pair{digitPair("", 1)}, digits, 1, false)
	}
}

// nearKeys are such as part from a key at each half byte, end ahead of it or go on behind it.
func nearKeys(key []byte) [][]byte {
	list := [][]byte{nil, fill(6)}
	for bit := range 8 * len(key) {
		list = append(list, flipped(key, bit))
	}
	for n := range key {
		list = append(list, key[:n], key[n+1:])
	}
	for n := 1; n <= 6-len(key); n++ {
		list = append(list, append(bytes.Clone(key), make([]byte, n)...), append(bytes.Clone(key), fill(n)...))
	}
	return list
}

func TestP14ProveKeyNearWhatIsThere(t *testing.T) {
	for call, pairs := range pairSets() {
		for _, pair := range pairs {
			for _, key := range nearKeys(pair.Key) {
				wantShown(t, call, pairs, key)
			}
		}
	}
}

// someKey is one of the pairs, one near it, or any.
func someKey(r *rand.Rand, pairs []impl.Pair) []byte {
	if len(pairs) == 0 || r.IntN(6) == 0 {
		return randomBytes(r, r.IntN(7))
	}
	key := pairs[r.IntN(len(pairs))].Key
	if r.IntN(3) == 0 {
		return key
	}
	near := nearKeys(key)
	return near[r.IntN(len(near))]
}

func TestP14ProveKeyOfMany(t *testing.T) {
	for i, pairs := range manyPairs(1000) {
		r := rand.New(rand.NewPCG(uint64(i), 14))
		for _, pair := range pairs {
			wantShown(t, "some pairs", pairs, pair.Key)
		}
		for range 5 {
			wantShown(t, "some pairs", pairs, someKey(r, pairs))
		}
	}
}

// A proof does not hang on the order of the pairs either.
func TestP14AProofDoesNotHangOnTheOrder(t *testing.T) {
	r := rand.New(rand.NewPCG(13, 3))
	for call, pairs := range pairSets() {
		order := clonePairs(pairs)
		for range 10 {
			r.Shuffle(len(order), func(i, j int) { order[i], order[j] = order[j], order[i] })
			key := someKey(r, pairs)
			wantProof(t, "ProveKey of "+call+" in some order", impl.ProveKey(order, key), impl.OK, proofAs(pairs, key))
		}
	}
}

// What is not in the trie of all cannot be shown by a proof that was made for another key: it tells a code, or what is so.
func TestP14AProofShowsNothingThatIsNotSo(t *testing.T) {
	for i, pairs := range append(manyPairs(150), heavyPairs(), deepPairs(), plainPairs(12)) {
		r := rand.New(rand.NewPCG(uint64(i), 15))
		root := impl.RootOf(pairs).Bytes
		for range 20 {
			made, asked := someKey(r, pairs), someKey(r, pairs)
			found, value := isThere(pairs, asked)
			got := impl.CheckKey(root, asked, impl.ProveKey(pairs, made).Nodes)
			want := impl.TrieResult{Found: found, Value: value}
			if got.Code != impl.OK {
				want = impl.TrieResult{Code: got.Code}
			}
			wantTrie(t, "CheckKey of another key", got, want)
		}
	}
}

// Each node is needed, no other one is, and none may be another one.
func TestP14AProofIsNeededWhole(t *testing.T) {
	for i, pairs := range append(manyPairs(120), heavyPairs(), deepPairs(), plainPairs(12)) {
		r := rand.New(rand.NewPCG(uint64(i), 16))
		root := impl.RootOf(pairs).Bytes
		for range 4 {
			key := someKey(r, pairs)
			nodes := impl.ProveKey(pairs, key).Nodes
			if len(nodes) == 0 {
				continue
			}
			wantTrie(t, "CheckKey without the last node", impl.CheckKey(root, key, nodes[:len(nodes)-1]), impl.TrieResult{Code: impl.ErrNone})
			for _, more := range [][]byte{nil, {0x80}, nodes[0], nodes[len(nodes)-1], fill(600)} {
				wantTrie(t, "CheckKey with a node too many", impl.CheckKey(root, key, append(slices.Clone(nodes), more)), impl.TrieResult{Code: impl.ErrMany})
			}
			for at := range nodes {
				changed := slices.Clone(nodes)
				changed[at] = flipped(nodes[at], r.IntN(8*len(nodes[at])))
				wantTrie(t, "CheckKey with a changed node", impl.CheckKey(root, key, changed), impl.TrieResult{Code: impl.ErrSign})
				if at+1 < len(nodes) {
					wantTrie(t, "CheckKey without a node", impl.CheckKey(root, key, slices.Delete(slices.Clone(nodes), at, at+1)), impl.TrieResult{Code: impl.ErrSign})
				}
			}
		}
	}
}
