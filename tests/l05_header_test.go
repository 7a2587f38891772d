package tests

import (
	"bytes"
	"math"
	"math/big"
	"slices"
	"strings"
	"testing"

	"loop.example/g00383/impl"
)

const topNumber = 1 << 40

// addr is the address that a number has.
func addr(n int) []byte {
	return []byte{byte(n >> 24), byte(n >> 16), byte(n >> 8), byte(n)}
}

// risingAddrs are so many addresses that rise, with bytes on both sides of 128 in them.
func risingAddrs(n int) [][]byte {
	var list [][]byte
	for i := range n {
		list = append(list, addr(1+i*0x1f0103a7))
	}
	return list
}

func someCommits(n int) [][]byte {
	var list [][]byte
	for i := range n {
		list = append(list, append(addr(0x70+i), byte(i), 2, 3, 4))
	}
	return list
}

// fullHeader has all of its fields full; no two of them hold the same.
func fullHeader() impl.Header {
	return impl.Header{
		Parent: fill(32), Number: topNumber, Time: topNumber - 1, Hard: 9, Target: addr(0x0a0b0c0d), Nonce: impl.NonceDrop,
		Signers: risingAddrs(7), Receipts: bytes.Repeat([]byte{0xe7}, 32), Signer: addr(0x51), Seal: []byte{0xf1, 2, 3, 4}, Commits: someCommits(7),
	}
}

// bareHeader has all empty that may be.
func bareHeader() impl.Header {
	return impl.Header{Parent: make([]byte, 32), Receipts: make([]byte, 32), Signer: make([]byte, 4)}
}

// someHeader is neither full nor bare.
func someHeader() impl.Header {
	h := fullHeader()
	h.Number, h.Time, h.Hard, h.Nonce = 300, 127, 2, impl.NonceAdd
	h.Signers, h.Commits = risingAddrs(3), someCommits(2)
	return h
}

func goodHeaders() []impl.Header {
	return []impl.Header{fullHeader(), bareHeader(), someHeader()}
}

func cloneLists(lists [][]byte) [][]byte {
	var cloned [][]byte
	for _, list := range lists {
		cloned = append(cloned, bytes.Clone(list))
	}
	return cloned
}

// cloneHeader is the same header in other memory.
func cloneHeader(h impl.Header) impl.Header {
	h.Parent, h.Target, h.Receipts = bytes.Clone(h.Parent), bytes.Clone(h.Target), bytes.Clone(h.Receipts)
	h.Signer, h.Seal = bytes.Clone(h.Signer), bytes.Clone(h.Seal)
	h.Signers, h.Commits = cloneLists(h.Signers), cloneLists(h.Commits)
	return h
}

// withChange is a header in other memory, with a change.
func withChange(h impl.Header, change func(h *impl.Header)) impl.Header {
	changed := cloneHeader(h)
	change(&changed)
	return changed
}

func leaves(lists [][]byte) tree {
	list := listOf()
	for _, data := range lists {
		list.parts = append(list.parts, leaf(data...))
	}
	return list
}

func numberLeaf(n int64) tree {
	return leaf(big.NewInt(n).Bytes()...)
}

// headerTree is what the chapter says that a header is written as.
func headerTree(h impl.Header) tree {
	return listOf(
		leaf(h.Parent...), numberLeaf(h.Number), numberLeaf(h.Time), numberLeaf(h.Hard), leaf(h.Target...), numberLeaf(h.Nonce),
		leaves(h.Signers), leaf(h.Receipts...), leaf(h.Signer...), leaf(h.Seal...), leaves(h.Commits),
	)
}

func equalLists(a [][]byte, b [][]byte) bool {
	return slices.EqualFunc(a, b, bytes.Equal)
}

// equalHeaders holds them against each other field by field.
func equalHeaders(a impl.Header, b impl.Header) bool {
	numbers := a.Number == b.Number && a.Time == b.Time && a.Hard == b.Hard && a.Nonce == b.Nonce
	data := bytes.Equal(a.Parent, b.Parent) && bytes.Equal(a.Target, b.Target) && bytes.Equal(a.Receipts, b.Receipts)
	signed := bytes.Equal(a.Signer, b.Signer) && bytes.Equal(a.Seal, b.Seal)
	return numbers && data && signed && equalLists(a.Signers, b.Signers) && equalLists(a.Commits, b.Commits)
}

func wantHeader(t *testing.T, call string, got impl.HeaderResult, code int64, h impl.Header) {
	t.Helper()
	if got.Code != code || !equalHeaders(got.Header, h) {
		t.Errorf("%s: %+v, want code %d and %+v", call, got, code, h)
	}
}

// wantHeaderFault: whoever is told such a header tells its fault, and nothing else.
func wantHeaderFault(t *testing.T, call string, h impl.Header, code int64) {
	t.Helper()
	if got := impl.HeaderFault(h); got != code {
		t.Errorf("HeaderFault of %s: %d, want %d", call, got, code)
	}
	if code != impl.OK {
		wantBytes(t, "PackHeader of "+call, impl.PackHeader(h), code, nil)
		wantBytes(t, "HashOf of "+call, impl.HashOf(h), code, nil)
		wantBytes(t, "SealHash of "+call, impl.SealHash(h), code, nil)
	}
}

func wantSignersFault(t *testing.T, call string, list [][]byte, code int64) {
	t.Helper()
	if got := impl.SignersFault(list); got != code {
		t.Errorf("SignersFault of %s: %d, want %d", call, got, code)
	}
	h := someHeader()
	h.Signers = list
	wantHeaderFault(t, "a header with Signers: "+call, h, code)
}

func TestP6Constants(t *testing.T) {
	if impl.AddrBytes != 4 || impl.MaxSigners != 7 || impl.NonceNone != 0 || impl.NonceAdd != 1 || impl.NonceDrop != 2 {
		t.Error("a constant is another one")
	}
}

func TestP6SignersFaultOfCounts(t *testing.T) {
	wantSignersFault(t, "nil", nil, impl.OK)
	wantSignersFault(t, "none", [][]byte{}, impl.OK)
	for n := 1; n <= 7; n++ {
		wantSignersFault(t, "so many as may be", risingAddrs(n), impl.OK)
	}
	wantSignersFault(t, "8", risingAddrs(8), impl.ErrMany)
	wantSignersFault(t, "many", make([][]byte, 1000), impl.ErrMany)
}

func TestP6SignersFaultOfLengths(t *testing.T) {
	for _, count := range []int{1, 2, 7} {
		for _, place := range []int{0, count / 2, count - 1} {
			for _, n := range []int{0, 1, 3, 5, 8, 32} {
				list := risingAddrs(count)
				// It begins as the address there does, so that its length alone is wrong.
				list[place] = append(list[place], 9, 9, 9, 9)[:min(n, 8)]
				wantSignersFault(t, "one that is no address", list, impl.ErrForm)
			}
		}
	}
	wantSignersFault(t, "a nil address", [][]byte{nil}, impl.ErrForm)
	wantSignersFault(t, "an address of 3 bytes, ahead of another", [][]byte{{0, 0, 0}, {0, 0, 0, 1}}, impl.ErrForm)
}

func TestP6SignersFaultOfOrder(t *testing.T) {
	low, high := addr(1), addr(2)
	wantSignersFault(t, "the same twice", [][]byte{low, bytes.Clone(low)}, impl.ErrForm)
	wantSignersFault(t, "the wrong way around", [][]byte{high, low}, impl.ErrForm)
	wantSignersFault(t, "the right way around", [][]byte{low, high}, impl.OK)
	wantSignersFault(t, "bytes beyond 127 are the greater ones", [][]byte{{127, 0, 0, 0}, {128, 0, 0, 0}, {255, 255, 255, 255}}, impl.OK)
	wantSignersFault(t, "bytes beyond 127 ahead of the others", [][]byte{{128, 0, 0, 0}, {127, 0, 0, 0}}, impl.ErrForm)
	wantSignersFault(t, "the first byte counts for the most", [][]byte{{0, 9, 9, 9}, {1, 0, 0, 0}}, impl.OK)
	wantSignersFault(t, "the last byte counts for the least", [][]byte{{1, 0, 0, 0}, {0, 9, 9, 9}}, impl.ErrForm)
	for at := range 6 {
		same, around := risingAddrs(7), risingAddrs(7)
		same[at+1] = bytes.Clone(same[at])
		around[at], around[at+1] = around[at+1], around[at]
		wantSignersFault(t, "two of seven that are the same", same, impl.ErrForm)
		wantSignersFault(t, "two of seven the wrong way around", around, impl.ErrForm)
	}
	// It rises against the one right ahead of it, be it above all others.
	wantSignersFault(t, "a fall in the middle", [][]byte{addr(1), addr(3), addr(2), addr(4)}, impl.ErrForm)
}

func TestP6SignersFaultTooManyComesFirst(t *testing.T) {
	short, same, around := risingAddrs(8), risingAddrs(8), risingAddrs(8)
	short[0] = short[0][:3]
	same[1] = same[0]
	around[0], around[7] = around[7], around[0]
	for _, list := range [][][]byte{short, same, around} {
		wantSignersFault(t, "8 with a fault besides", list, impl.ErrMany)
		wantSignersFault(t, "7 of them", list[:7], impl.ErrForm)
	}
}

// Of a field with so many bytes, a header has which fault?
func TestP6HeaderFaultOfLengths(t *testing.T) {
	fields := []struct {
		name  string
		right int
		empty bool
		set   func(h *impl.Header, data []byte)
	}{
		{"Parent", 32, false, func(h *impl.Header, data []byte) { h.Parent = data }},
		{"Target", 4, true, func(h *impl.Header, data []byte) { h.Target = data }},
		{"Receipts", 32, false, func(h *impl.Header, data []byte) { h.Receipts = data }},
		{"Signer", 4, false, func(h *impl.Header, data []byte) { h.Signer = data }},
		{"Seal", 4, true, func(h *impl.Header, data []byte) { h.Seal = data }},
	}
	for _, f := range fields {
		for _, good := range goodHeaders() {
			for _, n := range []int{0, 1, 3, 4, 5, 8, 31, 32, 33, 64, 1201} {
				h := withChange(good, func(h *impl.Header) { f.set(h, fill(n)) })
				code := int64(impl.ErrForm)
				if n == f.right || n == 0 && f.empty {
					code = impl.OK
				}
				wantHeaderFault(t, f.name+" of some length", h, code)
			}
		}
	}
}

func TestP6HeaderFaultOfNumbers(t *testing.T) {
	fields := []struct {
		name string
		most int64
		set  func(h *impl.Header, n int64)
	}{
		{"Number", topNumber, func(h *impl.Header, n int64) { h.Number = n }},
		{"Time", topNumber, func(h *impl.Header, n int64) { h.Time = n }},
		{"Hard", 9, func(h *impl.Header, n int64) { h.Hard = n }},
		{"Nonce", 2, func(h *impl.Header, n int64) { h.Nonce = n }},
	}
	numbers := []int64{math.MinInt64, -topNumber, -2, -1, 0, 1, 2, 3, 4, 8, 9, 10, 11, 255, 256, topNumber - 1, topNumber, topNumber + 1, topShort, math.MaxInt64}
	for _, f := range fields {
		for _, good := range goodHeaders() {
			for _, n := range numbers {
				h := withChange(good, func(h *impl.Header) { f.set(h, n) })
				code := int64(impl.ErrRange)
				if 0 <= n && n <= f.most {
					code = impl.OK
				}
				wantHeaderFault(t, f.name+" of some number", h, code)
			}
		}
	}
}

func TestP6HeaderFaultOfCommits(t *testing.T) {
	h := someHeader()
	for n := range 8 {
		h.Commits = someCommits(n)
		wantHeaderFault(t, "so many Commits as may be", h, impl.OK)
	}
	h.Commits = someCommits(8)
	wantHeaderFault(t, "8 Commits", h, impl.ErrMany)
	h.Commits = make([][]byte, 8)
	wantHeaderFault(t, "8 Commits that are empty", h, impl.ErrMany)
	for _, count := range []int{1, 2, 7} {
		for _, place := range []int{0, count / 2, count - 1} {
			for _, n := range []int{0, 4, 7, 9, 16} {
				h.Commits = someCommits(count)
				h.Commits[place] = fill(n)
				wantHeaderFault(t, "a commit of a wrong length", h, impl.ErrForm)
			}
		}
	}
	// Commits need not rise, and may be the same: what they are is asked elsewhere.
	h.Commits = slices.Repeat([][]byte{fill(8)}, 7)
	wantHeaderFault(t, "the same commit over and over", h, impl.OK)
	h.Commits = someCommits(7)
	slices.Reverse(h.Commits)
	wantHeaderFault(t, "commits that fall", h, impl.OK)
}

// headerChange gives a header a fault that is asked at one of the stages of HeaderFault.
type headerChange struct {
	stage  int
	code   int64
	change func(h *impl.Header)
}

// headerFaultChanges stand in the order in which their faults are asked.
func headerFaultChanges() []headerChange {
	return []headerChange{
		{0, impl.ErrForm, func(h *impl.Header) { h.Parent = fill(31) }},
		{0, impl.ErrForm, func(h *impl.Header) { h.Target = fill(5) }},
		{0, impl.ErrForm, func(h *impl.Header) { h.Receipts = nil }},
		{0, impl.ErrForm, func(h *impl.Header) { h.Signer = nil }},
		{0, impl.ErrForm, func(h *impl.Header) { h.Seal = fill(3) }},
		{1, impl.ErrRange, func(h *impl.Header) { h.Number = -1 }},
		{1, impl.ErrRange, func(h *impl.Header) { h.Time = topNumber + 1 }},
		{1, impl.ErrRange, func(h *impl.Header) { h.Hard = 10 }},
		{1, impl.ErrRange, func(h *impl.Header) { h.Nonce = 3 }},
		{2, impl.ErrMany, func(h *impl.Header) { h.Signers = risingAddrs(8) }},
		{2, impl.ErrForm, func(h *impl.Header) { h.Signers = [][]byte{addr(2), addr(1)} }},
		{2, impl.ErrForm, func(h *impl.Header) { h.Signers = [][]byte{fill(3)} }},
		{3, impl.ErrMany, func(h *impl.Header) { h.Commits = someCommits(8) }},
		{3, impl.ErrMany, func(h *impl.Header) { h.Commits = make([][]byte, 8) }},
		{3, impl.ErrForm, func(h *impl.Header) { h.Commits = [][]byte{fill(8), fill(7)} }},
	}
}

func TestP6HeaderFaultTheFirstCode(t *testing.T) {
	rows := headerFaultChanges()
	for _, good := range goodHeaders() {
		for i, a := range rows {
			wantHeaderFault(t, "one fault", withChange(good, a.change), a.code)
			for _, b := range rows[i:] {
				if a.stage == b.stage {
					continue
				}
				two := withChange(good, a.change)
				b.change(&two)
				wantHeaderFault(t, "two faults", two, a.code)
			}
		}
	}
	all := withChange(fullHeader(), func(h *impl.Header) {
		for _, row := range rows {
			row.change(h)
		}
	})
	wantHeaderFault(t, "every fault", all, impl.ErrForm)
	wantHeaderFault(t, "nothing at all", impl.Header{}, impl.ErrForm)
}

// wantPacked: a header is written as the chapter says, and read back from that.
func wantPacked(t *testing.T, call string, h impl.Header) {
	t.Helper()
	data := headerTree(h).bytes()
	wantHeaderFault(t, call, h, impl.OK)
	wantBytes(t, "PackHeader of "+call, impl.PackHeader(h), impl.OK, data)
	wantHeader(t, "UnpackHeader of "+call, impl.UnpackHeader(data), impl.OK, h)
}

// knownHeader is written out by hand below.
func knownHeader() impl.Header {
	return impl.Header{
		Parent: bytes.Repeat([]byte{0x11}, 32), Number: 300, Time: 7, Hard: 2, Target: addr(9), Nonce: impl.NonceAdd, Signers: [][]byte{addr(1), addr(2)},
		Receipts: bytes.Repeat([]byte{0x22}, 32), Signer: addr(1), Seal: []byte{1, 2, 3, 4}, Commits: [][]byte{{1, 2, 3, 4, 5, 6, 7, 8}},
	}
}

func TestP6PackHeaderKnown(t *testing.T) {
	bare := unhex("f84f a0" + strings.Repeat("00", 32) + "80 80 80 80 80 c0 a0" + strings.Repeat("00", 32) + "84 00000000 80 c0")
	wantBytes(t, "PackHeader of a bare header", impl.PackHeader(bareHeader()), impl.OK, bare)
	wantHeader(t, "UnpackHeader of a bare header's bytes", impl.UnpackHeader(bare), impl.OK, bareHeader())

	h := knownHeader()
	packed := "f86c a0" + strings.Repeat("11", 32) + "82012c 07 02 84 00000009 01 ca 84 00000001 84 00000002 a0" + strings.Repeat("22", 32) + "84 00000001 84 01020304 c9 88 0102030405060708"
	wantBytes(t, "PackHeader", impl.PackHeader(h), impl.OK, unhex(packed))
	wantHeader(t, "UnpackHeader", impl.UnpackHeader(unhex(packed)), impl.OK, h)
}

func TestP6PackHeaderOfNumbers(t *testing.T) {
	for _, good := range goodHeaders() {
		for _, n := range []int64{0, 1, 2, 127, 128, 255, 256, 65535, 65536, 1<<24 - 1, 1 << 24, 1 << 32, topNumber - 1, topNumber} {
			wantPacked(t, "a Number", withChange(good, func(h *impl.Header) { h.Number = n }))
			wantPacked(t, "a Time", withChange(good, func(h *impl.Header) { h.Time = n }))
		}
		for n := range int64(10) {
			wantPacked(t, "how Hard", withChange(good, func(h *impl.Header) { h.Hard = n }))
		}
		for n := range int64(3) {
			wantPacked(t, "a Nonce", withChange(good, func(h *impl.Header) { h.Nonce = n }))
		}
	}
}

func TestP6PackHeaderOfLists(t *testing.T) {
	for _, good := range goodHeaders() {
		for signers := range 8 {
			for commits := range 8 {
				wantPacked(t, "lists", withChange(good, func(h *impl.Header) { h.Signers, h.Commits = risingAddrs(signers), someCommits(commits) }))
			}
		}
	}
}

func TestP6PackHeaderOfWhatMayBeEmpty(t *testing.T) {
	for _, good := range goodHeaders() {
		for _, target := range [][]byte{nil, {}, addr(0), addr(5), {255, 255, 255, 255}} {
			for _, seal := range [][]byte{nil, {}, addr(0), addr(5), {255, 255, 255, 255}} {
				wantPacked(t, "a Target and a Seal", withChange(good, func(h *impl.Header) { h.Target, h.Seal = target, seal }))
			}
		}
		wantPacked(t, "lists that are empty", withChange(good, func(h *impl.Header) { h.Signers, h.Commits = [][]byte{}, [][]byte{} }))
	}
}
