package tests

import (
	"bytes"
	"encoding/hex"
	"math"
	"math/rand/v2"
	"slices"
	"strings"
	"testing"

	"loop.example/g00383/impl"
)

const mostPairs = 12
const mostPath = 20

func textPair(key string, value string) impl.Pair {
	return impl.Pair{Key: []byte(key), Value: []byte(value)}
}

// digitPair has a key that is told by its digits, one for each half byte.
func digitPair(digits string, value ...byte) impl.Pair {
	return impl.Pair{Key: unhex(digits), Value: value}
}

func clonePairs(pairs []impl.Pair) []impl.Pair {
	var cloned []impl.Pair
	for _, pair := range pairs {
		cloned = append(cloned, impl.Pair{Key: bytes.Clone(pair.Key), Value: bytes.Clone(pair.Value)})
	}
	return cloned
}

// withPair is the same pairs with another one at a place.
func withPair(pairs []impl.Pair, at int, pair impl.Pair) []impl.Pair {
	changed := slices.Clone(pairs)
	changed[at] = pair
	return changed
}

// plainPairs have no fault: their keys are of each length, and so are many of their values.
func plainPairs(count int) []impl.Pair {
	var pairs []impl.Pair
	for i := range count {
		pairs = append(pairs, impl.Pair{Key: bytes.Repeat([]byte{byte(17 * i)}, i%7), Value: fill(1 + 59*i%60)})
		if i >= 7 {
			pairs[i].Key = append(bytes.Repeat([]byte{byte(i)}, i%6), 200)
		}
	}
	return pairs
}

// pairsFaultAs is what the chapter says that PairsFault is.
func pairsFaultAs(pairs []impl.Pair) int64 {
	if len(pairs) > mostPairs {
		return impl.ErrMany
	}
	seen := map[string]int{}
	for _, pair := range pairs {
		if len(pair.Key) > 6 || len(pair.Value) < 1 || len(pair.Value) > 60 {
			return impl.ErrForm
		}
		if seen[string(pair.Key)]++; seen[string(pair.Key)] > 1 {
			return impl.ErrTaken
		}
	}
	return impl.OK
}

func wantProof(t *testing.T, call string, got impl.ProofResult, code int64, nodes [][]byte) {
	t.Helper()
	if got.Code != code || !equalLists(got.Nodes, nodes) {
		t.Errorf("%s: code %d and %x, want %d and %x", call, got.Code, got.Nodes, code, nodes)
	}
}

func sameTrie(a impl.TrieResult, b impl.TrieResult) bool {
	return a.Code == b.Code && a.Found == b.Found && bytes.Equal(a.Value, b.Value)
}

func wantTrie(t *testing.T, call string, got impl.TrieResult, want impl.TrieResult) {
	t.Helper()
	if !sameTrie(got, want) {
		t.Errorf("%s: %+v, want %+v", call, got, want)
	}
}

// wantPairsFault asks the others too: with a fault they tell it alone, whatever the key is.
func wantPairsFault(t *testing.T, call string, pairs []impl.Pair, code int64) {
	t.Helper()
	if told := pairsFaultAs(pairs); told != code {
		t.Fatalf("%s: by the chapter it is %d, the test wants %d", call, told, code)
	}
	if got := impl.PairsFault(pairs); got != code {
		t.Errorf("PairsFault of %s: %d, want %d", call, got, code)
	}
	if code == impl.OK {
		wantBytes(t, "RootOf "+call, impl.RootOf(pairs), impl.OK, rootAs(pairs))
		wantProof(t, "ProveKey of "+call, impl.ProveKey(pairs, nil), impl.OK, proofAs(pairs, nil))
		return
	}
	wantBytes(t, "RootOf "+call, impl.RootOf(pairs), code, nil)
	keys := [][]byte{nil, fill(6), fill(7)}
	for _, pair := range pairs[:min(3, len(pairs))] {
		keys = append(keys, pair.Key)
	}
	for _, key := range keys {
		wantProof(t, "ProveKey of "+call, impl.ProveKey(pairs, key), code, nil)
	}
}

func TestP14Constants(t *testing.T) {
	if impl.MaxPairs != mostPairs {
		t.Errorf("MaxPairs is %d", impl.MaxPairs)
	}
}

func TestP14PairsFaultCounts(t *testing.T) {
	wantPairsFault(t, "nil", nil, impl.OK)
	wantPairsFault(t, "no pairs", []impl.Pair{}, impl.OK)
	for count := 1; count <= mostPairs; count++ {
		wantPairsFault(t, "so many pairs", plainPairs(count), impl.OK)
	}
	for _, count := range []int{13, 14, 24, 255, 256, 268} {
		wantPairsFault(t, "too many pairs", plainPairs(count), impl.ErrMany)
	}
}

func TestP14PairsFaultForms(t *testing.T) {
	base := plainPairs(mostPairs)
	for at := range base {
		for n := range 65 {
			code := int64(impl.OK)
			if n > 6 {
				code = impl.ErrForm
			}
			key := bytes.Repeat([]byte{byte(120 + at)}, n)
			if n == 0 && at > 0 {
				code = impl.ErrTaken // the first pair has the empty key
			}
			wantPairsFault(t, "a key of so many bytes", withPair(base, at, impl.Pair{Key: key, Value: []byte{1}}), code)
			code = impl.ErrForm
			if 1 <= n && n <= 60 {
				code = impl.OK
			}
			wantPairsFault(t, "a value of so many bytes", withPair(base, at, impl.Pair{Key: base[at].Key, Value: fill(n)}), code)
		}
		for _, n := range []int{255, 256, 257, 262, 300, 1200, 1 << 16} {
			wantPairsFault(t, "a much longer key", withPair(base, at, impl.Pair{Key: fill(n), Value: []byte{1}}), impl.ErrForm)
			wantPairsFault(t, "a much longer value", withPair(base, at, impl.Pair{Key: base[at].Key, Value: fill(n)}), impl.ErrForm)
		}
		wantPairsFault(t, "a pair of nothing", withPair(base, at, impl.Pair{}), impl.ErrForm)
		wantPairsFault(t, "a value of a zero", withPair(base, at, impl.Pair{Key: base[at].Key, Value: []byte{0}}), impl.OK)
	}
	for _, n := range []int{0, 1, 5, 6} {
		for _, m := range []int{1, 2, 59, 60} {
			wantPairsFault(t, "one pair", []impl.Pair{{Key: fill(n), Value: fill(m)}}, impl.OK)
		}
	}
}

func TestP14PairsFaultKeysTwice(t *testing.T) {
	base := plainPairs(mostPairs)
	for first := range base {
		for second := first + 1; second < len(base); second++ {
			twice := withPair(base, second, impl.Pair{Key: bytes.Clone(base[first].Key), Value: []byte{9}})
			wantPairsFault(t, "a key twice", twice, impl.ErrTaken)
			wantPairsFault(t, "a pair twice", withPair(base, second, base[first]), impl.ErrTaken)
		}
	}
	wantPairsFault(t, "the empty key twice", []impl.Pair{{Value: []byte{1}}, {Value: []byte{2}}}, impl.ErrTaken)
	wantPairsFault(t, "the empty key twice, nil and not", []impl.Pair{{Key: []byte{}, Value: []byte{1}}, textPair("a", "b"), {Value: []byte{1}}}, impl.ErrTaken)
	wantPairsFault(t, "one key thrice", []impl.Pair{textPair("a", "1"), textPair("a", "2"), textPair("a", "3")}, impl.ErrTaken)
	wantPairsFault(t, "keys that begin others", []impl.Pair{textPair("", "1"), textPair("a", "1"), textPair("aa", "1"), textPair("aaa", "1")}, impl.OK)
	wantPairsFault(t, "keys with zeros behind", []impl.Pair{digitPair("", 1), digitPair("00", 1), digitPair("0000", 1), digitPair("000000", 1)}, impl.OK)
	wantPairsFault(t, "one value for all", []impl.Pair{textPair("a", "v"), textPair("b", "v"), textPair("c", "v")}, impl.OK)
	wantPairsFault(t, "keys that are others' values", []impl.Pair{textPair("a", "b"), textPair("b", "a")}, impl.OK)
}

func TestP14PairsFaultTwoAtOnce(t *testing.T) {
	long, none, good := impl.Pair{Key: fill(7), Value: []byte{1}}, impl.Pair{Key: fill(2)}, textPair("a", "b")
	many := plainPairs(13)
	for at := range many {
		wantPairsFault(t, "too many, and a form", withPair(many, at, long), impl.ErrMany)
		wantPairsFault(t, "too many, and no value", withPair(many, at, none), impl.ErrMany)
		wantPairsFault(t, "too many, and a key twice", withPair(many, at, many[(at+1)%13]), impl.ErrMany)
	}
	wantPairsFault(t, "a form ahead of a key twice", []impl.Pair{long, good, good}, impl.ErrForm)
	wantPairsFault(t, "a key twice ahead of a form", []impl.Pair{good, good, long}, impl.ErrTaken)
	wantPairsFault(t, "a key twice ahead of no value", []impl.Pair{good, textPair("c", "d"), good, none}, impl.ErrTaken)
	wantPairsFault(t, "a form between the two", []impl.Pair{good, none, good}, impl.ErrForm)
	wantPairsFault(t, "a key twice, the second one without a value", []impl.Pair{good, {Key: good.Key}}, impl.ErrForm)
	wantPairsFault(t, "a key twice, the second one with too much of one", []impl.Pair{good, {Key: good.Key, Value: fill(61)}}, impl.ErrForm)
	wantPairsFault(t, "a key twice that is too long", []impl.Pair{long, long}, impl.ErrForm)
	wantPairsFault(t, "key and value", []impl.Pair{{Key: fill(7)}}, impl.ErrForm)
}

// packAs is what the chapter says that the bytes of a path are, which is told by its digits.
func packAs(digits string, end bool) []byte {
	head := "00"
	switch odd := len(digits)%2 == 1; {
	case odd && end:
		head = "3"
	case odd:
		head = "1"
	case end:
		head = "20"
	}
	return unhex(head + digits)
}

func pathOf(digits string) []int64 {
	var path []int64
	for _, digit := range digits {
		path = append(path, int64(strings.IndexRune("0123456789abcdef", digit)))
	}
	return path
}

// someDigits are so many half bytes in which all values come.
func someDigits(n int) string {
	return hex.EncodeToString(fill(n))[:n]
}

func wantPath(t *testing.T, call string, got impl.PathResult, code int64, path []int64, end bool) {
	t.Helper()
	if got.Code != code || got.End != end || !slices.Equal(got.Path, path) {
		t.Errorf("%s: %+v, want code %d, %v and %v", call, got, code, path, end)
	}
}

// wantPathBothWays: a path is packed as the chapter says, and read back.
func wantPathBothWays(t *testing.T, digits string, end bool) {
	t.Helper()
	data := packAs(digits, end)
	wantBytes(t, "PackPath of "+digits, impl.PackPath(pathOf(digits), end), impl.OK, data)
	wantPath(t, "UnpackPath of "+digits, impl.UnpackPath(data), impl.OK, pathOf(digits), end)
}

func TestP14PackPathKnown(t *testing.T) {
	wantBytes(t, "PackPath of nothing", impl.PackPath(nil, false), impl.OK, []byte{0})
	wantBytes(t, "PackPath of nothing that ends", impl.PackPath([]int64{}, true), impl.OK, []byte{0x20})
	wantBytes(t, "PackPath of one", impl.PackPath([]int64{7}, false), impl.OK, []byte{0x17})
	wantBytes(t, "PackPath of one that ends", impl.PackPath([]int64{15}, true), impl.OK, []byte{0x3f})
	wantBytes(t, "PackPath of two", impl.PackPath([]int64{1, 2}, false), impl.OK, []byte{0x00, 0x12})
	wantBytes(t, "PackPath of two that end", impl.PackPath([]int64{1, 2}, true), impl.OK, []byte{0x20, 0x12})
	wantBytes(t, "PackPath of five", impl.PackPath([]int64{1, 2, 3, 4, 5}, false), impl.OK, []byte{0x11, 0x23, 0x45})
	wantBytes(t, "PackPath of five that end", impl.PackPath([]int64{15, 1, 12, 11, 8}, true), impl.OK, []byte{0x3f, 0x1c, 0xb8})
	wantBytes(t, "PackPath of six", impl.PackPath([]int64{0, 1, 2, 3, 4, 5}, false), impl.OK, []byte{0x00, 0x01, 0x23, 0x45})
	wantBytes(t, "PackPath of six that end", impl.PackPath([]int64{0, 15, 1, 12, 11, 8}, true), impl.OK, []byte{0x20, 0x0f, 0x1c, 0xb8})
}

func TestP14PackPathLengths(t *testing.T) {
	for n := range mostPath + 1 {
		for _, end := range []bool{false, true} {
			wantPathBothWays(t, someDigits(n), end)
			wantPathBothWays(t, strings.Repeat("0", n), end)
			wantPathBothWays(t, strings.Repeat("f", n), end)
			for at := range n {
				wantPathBothWays(t, strings.Repeat("0", at)+"f"+strings.Repeat("0", n-1-at), end)
			}
		}
	}
	for _, n := range []int{21, 22, 23, 40, 256, 276, 5000} {
		for _, end := range []bool{false, true} {
			wantBytes(t, "PackPath of too many", impl.PackPath(make([]int64, n), end), impl.ErrMany, nil)
			wantBytes(t, "PackPath of too many", impl.PackPath(pathOf(someDigits(n)), end), impl.ErrMany, nil)
		}
	}
}

func noHalfBytes() []int64 {
	return []int64{math.MinInt64, math.MinInt64 + 1, -1 << 32, -256, -16, -15, -1, 16, 17, 31, 32, 240, 255, 256, 271, 1 << 32, 1<<32 + 5, math.MaxInt64 - 1, math.MaxInt64}
}

func TestP14PackPathHalfBytes(t *testing.T) {
	for half := range int64(16) {
		wantBytes(t, "PackPath of one", impl.PackPath([]int64{half}, false), impl.OK, []byte{byte(0x10 + half)})
		wantBytes(t, "PackPath of one that ends", impl.PackPath([]int64{half}, true), impl.OK, []byte{byte(0x30 + half)})
	}
	for _, no := range noHalfBytes() {
		for _, n := range []int{1, 2, 3, 19, 20} {
			for at := range n {
				for _, end := range []bool{false, true} {
					path := pathOf(someDigits(n))
					path[at] = no
					wantBytes(t, "PackPath of what is no half byte", impl.PackPath(path, end), impl.ErrRange, nil)
				}
			}
		}
		for _, n := range []int{21, 22, 50} {
			for _, at := range []int{0, 19, 20, n - 1} {
				path := make([]int64, n)
				path[at] = no
				wantBytes(t, "PackPath of too many, and what is no half byte", impl.PackPath(path, at%2 == 0), impl.ErrMany, nil)
			}
		}
	}
}

// unpackAs is what the chapter says that UnpackPath is, by the digits of data.
func unpackAs(data []byte) (int64, []int64, bool) {
	digits := hex.EncodeToString(data)
	for length := range mostPath + 1 {
		for _, end := range []bool{false, true} {
			if length > len(digits) {
				continue
			}
			if rest := digits[len(digits)-length:]; bytes.Equal(packAs(rest, end), data) {
				return impl.OK, pathOf(rest), end
			}
		}
	}
	return impl.ErrText, nil, false
}

// wantUnpacked holds UnpackPath against the chapter; what it reads is what PackPath makes data of.
func wantUnpacked(t *testing.T, data []byte) int64 {
	t.Helper()
	got := impl.UnpackPath(data)
	code, path, end := unpackAs(data)
	wantPath(t, "UnpackPath of "+hex.EncodeToString(data), got, code, path, end)
	if got.Code == impl.OK {
		wantBytes(t, "PackPath of what was read", impl.PackPath(got.Path, got.End), impl.OK, data)
	}
	return code
}

func TestP14UnpackPathOfFew(t *testing.T) {
	wantPath(t, "UnpackPath of nil", impl.UnpackPath(nil), impl.ErrText, nil, false)
	wantPath(t, "UnpackPath of nothing", impl.UnpackPath([]byte{}), impl.ErrText, nil, false)
	told := 0
	for b := range 256 {
		code := wantUnpacked(t, []byte{byte(b)})
		if (b == 0 || b == 0x20 || b>>4 == 1 || b>>4 == 3) != (code == impl.OK) {
			t.Errorf("the byte %d: code %d", b, code)
		}
		for c := range 256 {
			if wantUnpacked(t, []byte{byte(b), byte(c)}) == impl.OK {
				told++
			}
		}
	}
	// Of two bytes there are paths of two half bytes and of three, ends and not.
	if told != 2*256+2*4096 {
		t.Errorf("%d paths are read of two bytes", told)
	}
}

func TestP14UnpackPathHeads(t *testing.T) {
	for n := 1; n <= 13; n++ {
		for head := range 256 {
			data := append([]byte{byte(head)}, fill(n-1)...)
			code := wantUnpacked(t, data)
			kind, second := head>>4, head&15
			even := (kind == 0 || kind == 2) && second == 0 && n <= 11
			odd := (kind == 1 || kind == 3) && n <= 10
			if (even || odd) != (code == impl.OK) {
				t.Errorf("%d bytes that begin with %x: code %d", n, head, code)
			}
		}
	}
}

func TestP14UnpackPathLengths(t *testing.T) {
	for _, head := range []byte{0x00, 0x20} {
		wantPath(t, "UnpackPath of 11 bytes", impl.UnpackPath(append([]byte{head}, fill(10)...)), impl.OK, pathOf(someDigits(20)), head == 0x20)
		for _, n := range []int{11, 12, 13, 100, 255, 256, 1200, 5000, 1 << 16} {
			wantPath(t, "UnpackPath of too many", impl.UnpackPath(append([]byte{head}, fill(n)...)), impl.ErrText, nil, false)
		}
	}
	for _, head := range []byte{0x1d, 0x3d} {
		wantPath(t, "UnpackPath of 10 bytes", impl.UnpackPath(append([]byte{head}, fill(9)...)), impl.OK, append([]int64{13}, pathOf(someDigits(18))...), head == 0x3d)
		for _, n := range []int{10, 11, 12, 13, 100, 255, 256, 1200, 5000, 1 << 16} {
			wantPath(t, "UnpackPath of too many", impl.UnpackPath(append([]byte{head}, fill(n)...)), impl.ErrText, nil, false)
		}
	}
}

func TestP14PathsAreReadBack(t *testing.T) {
	r := rand.New(rand.NewPCG(13, 1))
	for range 3000 {
		digits := hex.EncodeToString(randomBytes(r, 10))[:r.IntN(21)]
		end := r.IntN(2) == 1
		wantPathBothWays(t, digits, end)
		// No two have the same bytes.
		if bytes.Equal(impl.PackPath(pathOf(digits), !end).Bytes, packAs(digits, end)) {
			t.Errorf("%s is packed the same as an end and as none", digits)
		}
		data := randomBytes(r, r.IntN(13))
		if len(data) > 0 {
			data[0] %= 64
		}
		wantUnpacked(t, data)
	}
}
