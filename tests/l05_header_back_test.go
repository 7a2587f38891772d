package tests

import (
	"bytes"
	"math/big"
	"math/rand/v2"
	"slices"
	"testing"

	"loop.example/g00383/impl"
)

func randomBytes(r *rand.Rand, n int) []byte {
	data := make([]byte, n)
	for i := range data {
		data[i] = byte(r.IntN(256))
	}
	return data
}

func randomAddrs(r *rand.Rand, n int) [][]byte {
	var list [][]byte
	for range n {
		list = append(list, randomBytes(r, 4))
	}
	slices.SortFunc(list, bytes.Compare)
	return slices.CompactFunc(list, bytes.Equal)
}

// manyHeaders have no fault, and differ in all that they may.
func manyHeaders(times int) []impl.Header {
	r := rand.New(rand.NewPCG(5, 6))
	list := goodHeaders()
	for range times {
		h := impl.Header{Parent: randomBytes(r, 32), Receipts: randomBytes(r, 32), Signer: randomBytes(r, 4)}
		h.Number, h.Time = r.Int64N(1<<r.IntN(41)+1), r.Int64N(1<<r.IntN(41)+1)
		h.Hard, h.Nonce = r.Int64N(10), r.Int64N(3)
		h.Target, h.Seal = randomBytes(r, 4*r.IntN(2)), randomBytes(r, 4*r.IntN(2))
		h.Signers = randomAddrs(r, r.IntN(8))
		for range r.IntN(8) {
			h.Commits = append(h.Commits, randomBytes(r, 8))
		}
		list = append(list, h)
	}
	return list
}

func TestP6HeadersAreReadBack(t *testing.T) {
	for _, h := range manyHeaders(2000) {
		wantPacked(t, "a header", h)
		read := impl.UnpackHeader(impl.PackHeader(h).Bytes)
		wantSameHeaders(t, "what was read and what was packed", read.Header, h, true)
	}
}

// wantNoHeader: bytes that are no header's are read as none, with nothing beside the code.
func wantNoHeader(t *testing.T, call string, data []byte) {
	t.Helper()
	wantHeader(t, "UnpackHeader of "+call, impl.UnpackHeader(data), impl.ErrText, impl.Header{})
}

func TestP6UnpackHeaderTooManyBytes(t *testing.T) {
	for _, n := range []int{1201, 1202, 5000, 1 << 20} {
		wantHeader(t, "UnpackHeader of too many", impl.UnpackHeader(make([]byte, n)), impl.ErrMany, impl.Header{})
		behind := append(headerTree(someHeader()).bytes(), make([]byte, n)...)
		wantHeader(t, "UnpackHeader of a header with too many behind", impl.UnpackHeader(behind), impl.ErrMany, impl.Header{})
	}
	wantNoHeader(t, "1200 zeros", make([]byte, 1200))
	items := repeated(leaf(fill(296)...), 4).with(leaf()).bytes()
	if len(items) != 1200 {
		t.Errorf("the items have %d bytes", len(items))
	}
	wantNoHeader(t, "1200 bytes that are items", items)
	wantNoHeader(t, "a header and zeros up to 1200", append(headerTree(someHeader()).bytes(), make([]byte, 1200)...)[:1200])
}

func TestP6UnpackHeaderNoHeader(t *testing.T) {
	wantNoHeader(t, "nil", nil)
	wantNoHeader(t, "no bytes", []byte{})
	for b := range 256 {
		wantNoHeader(t, "one byte", []byte{byte(b)})
	}
	wantNoHeader(t, "a list of nothing", listOf().bytes())
	wantNoHeader(t, "bytes alone", leaf(fill(32)...).bytes())
	wantNoHeader(t, "11 empty parts", repeated(leaf(), 11).bytes())
	wantNoHeader(t, "11 empty lists", repeated(listOf(), 11).bytes())
	for _, h := range goodHeaders() {
		wantNoHeader(t, "a header in a list", listOf(headerTree(h)).bytes())
		wantNoHeader(t, "a header as bytes", leaf(headerTree(h).bytes()...).bytes())
		wantNoHeader(t, "two headers", slices.Concat(headerTree(h).bytes(), headerTree(h).bytes()))
	}
}

func TestP6UnpackHeaderCutOrWithMore(t *testing.T) {
	for _, h := range goodHeaders() {
		data := headerTree(h).bytes()
		for n := range data {
			wantNoHeader(t, "bytes that are cut short", data[:n])
			wantNoHeader(t, "bytes whose first are gone", data[n+1:])
		}
		for b := range 256 {
			wantNoHeader(t, "bytes and one more", append(bytes.Clone(data), byte(b)))
			wantNoHeader(t, "one more ahead", append([]byte{byte(b)}, data...))
		}
	}
}

// withPart is a header's tree with another one at a place.
func withPart(h impl.Header, at int, part tree) []byte {
	tr := headerTree(h)
	tr.parts[at] = part
	return tr.bytes()
}

func TestP6UnpackHeaderTooFewOrManyParts(t *testing.T) {
	for _, h := range goodHeaders() {
		for at := range 11 {
			tr := headerTree(h)
			fewer := listOf(slices.Delete(slices.Clone(tr.parts), at, at+1)...)
			wantNoHeader(t, "ten parts", fewer.bytes())
			for _, part := range []tree{leaf(), listOf(), tr.parts[at]} {
				more := listOf(slices.Insert(slices.Clone(tr.parts), at, part)...)
				wantNoHeader(t, "twelve parts", more.bytes())
			}
			wantNoHeader(t, "so many parts", listOf(tr.parts[:at]...).bytes())
		}
		for _, part := range []tree{leaf(), listOf(), leaf(1), leaf(fill(8)...)} {
			wantNoHeader(t, "one more part at the end", headerTree(h).with(part).bytes())
		}
		// Taken for one flat list, these would be the same items.
		inner := headerTree(h)
		inner.parts = append(slices.Clone(inner.parts[:9]), listOf(inner.parts[9:]...))
		wantNoHeader(t, "the last parts in a list of their own", inner.bytes())
	}
}

func TestP6UnpackHeaderListsAndBytes(t *testing.T) {
	for _, h := range goodHeaders() {
		for at, part := range headerTree(h).parts {
			wantNoHeader(t, "a part in a list of its own", withPart(h, at, listOf(part)))
			if part.list {
				wantNoHeader(t, "no bytes where a list belongs", withPart(h, at, leaf()))
				wantNoHeader(t, "bytes where a list belongs", withPart(h, at, leaf(fill(8)...)))
				wantNoHeader(t, "the bytes of a list", withPart(h, at, leaf(part.bytes()...)))
				continue
			}
			wantNoHeader(t, "an empty list where bytes belong", withPart(h, at, listOf()))
			wantNoHeader(t, "a list where bytes belong", withPart(h, at, listOf(leaf(part.data...), leaf(1))))
		}
		wantNoHeader(t, "a list among the Signers", withPart(h, 6, listOf(listOf())))
		wantNoHeader(t, "a signer in a list", withPart(h, 6, listOf(listOf(leaf(addr(1)...)))))
		wantNoHeader(t, "a list behind a signer", withPart(h, 6, listOf(leaf(addr(1)...), listOf())))
		wantNoHeader(t, "a list among the Commits", withPart(h, 10, listOf(listOf())))
		wantNoHeader(t, "a commit in a list", withPart(h, 10, listOf(listOf(leaf(fill(8)...)))))
		wantNoHeader(t, "a commit with more in it", withPart(h, 10, listOf(leaf(fill(8)...), listOf(leaf(fill(8)...)))))
	}
}

func TestP6UnpackHeaderNumbers(t *testing.T) {
	most := map[int]int64{1: topNumber, 2: topNumber, 3: 9, 5: 2}
	for _, h := range goodHeaders() {
		for at, top := range most {
			wantNoHeader(t, "a zero byte for 0", withPart(h, at, leaf(0)))
			for _, n := range []int64{1, 2, 9, 127, 128, 256, topNumber} {
				data := big.NewInt(n).Bytes()
				wantNoHeader(t, "a zero ahead of a number", withPart(h, at, leaf(append([]byte{0}, data...)...)))
			}
			for _, n := range []int64{top + 1, top + 2, 256 * (top + 1), topShort, topShort + 1, 1<<62 - 1} {
				wantNoHeader(t, "a number beyond its range", withPart(h, at, numberLeaf(n)))
			}
			wantNoHeader(t, "eight bytes for a number", withPart(h, at, leaf(bytes.Repeat([]byte{255}, 8)...)))
			// 2^64, and 2^64 and 1: what is left of them in a word would be in range.
			wantNoHeader(t, "2^64", withPart(h, at, leaf(1, 0, 0, 0, 0, 0, 0, 0, 0)))
			wantNoHeader(t, "2^64 and 1", withPart(h, at, leaf(1, 0, 0, 0, 0, 0, 0, 0, 1)))
			wantNoHeader(t, "a number of 300 bytes", withPart(h, at, leaf(fill(300)...)))
			changed := withPart(h, at, numberLeaf(top))
			if got := impl.UnpackHeader(changed); got.Code != impl.OK {
				t.Errorf("UnpackHeader of the greatest number at %d: %d", at, got.Code)
			}
		}
		// One byte that stands alone must have no head.
		data := headerTree(withChange(h, func(h *impl.Header) { h.Hard = 5; h.Number = 0; h.Time = 0 })).bytes()
		at := bytes.LastIndex(data[:40], []byte{128, 128, 5}) + 2
		long := slices.Insert(bytes.Clone(data), at, 129)
		long[1]++
		wantNoHeader(t, "a head ahead of a single byte", long)
	}
}

func TestP6UnpackHeaderLengths(t *testing.T) {
	right := map[int]int{0: 32, 4: 4, 7: 32, 8: 4, 9: 4}
	for _, h := range goodHeaders() {
		for at, length := range right {
			for _, n := range []int{1, length - 1, length + 1, 2 * length, 300} {
				wantNoHeader(t, "a field of a wrong length", withPart(h, at, leaf(bytes.Repeat([]byte{200}, n)...)))
			}
			empty := withPart(h, at, leaf())
			if at == 4 || at == 9 {
				wantBytes(t, "a field that may be empty", impl.PackHeader(impl.UnpackHeader(empty).Header), impl.OK, empty)
			} else {
				wantNoHeader(t, "a field that may not be empty", empty)
			}
		}
		for _, n := range []int{0, 3, 5} {
			wantNoHeader(t, "a signer of a wrong length", withPart(h, 6, listOf(leaf(fill(n)...))))
		}
		for _, n := range []int{0, 7, 9} {
			wantNoHeader(t, "a commit of a wrong length", withPart(h, 10, listOf(leaf(fill(8)...), leaf(fill(n)...))))
		}
	}
}

func TestP6UnpackHeaderLists(t *testing.T) {
	for _, h := range goodHeaders() {
		wantNoHeader(t, "signers that fall", withPart(h, 6, leaves([][]byte{addr(2), addr(1)})))
		wantNoHeader(t, "signers that are the same", withPart(h, 6, leaves([][]byte{addr(2), addr(2)})))
		wantNoHeader(t, "8 signers", withPart(h, 6, leaves(risingAddrs(8))))
		wantNoHeader(t, "8 commits", withPart(h, 10, leaves(someCommits(8))))
		wantNoHeader(t, "100 commits", withPart(h, 10, leaves(someCommits(100))))
	}
}

// Bytes that are read as a header are its bytes, however near to others' they are.
func TestP6BytesThatAreReadAreTheirs(t *testing.T) {
	read := 0
	wantTheirs := func(data []byte) {
		got := impl.UnpackHeader(data)
		if got.Code != impl.OK {
			wantNoHeader(t, "changed bytes", data)
			return
		}
		read++
		wantHeaderFault(t, "what was read", got.Header, impl.OK)
		wantBytes(t, "PackHeader of what was read", impl.PackHeader(got.Header), impl.OK, data)
		wantBytes(t, "what the chapter says of what was read", impl.BytesResult{Bytes: data}, impl.OK, headerTree(got.Header).bytes())
	}
	r := rand.New(rand.NewPCG(8, 9))
	for _, h := range manyHeaders(30) {
		data := headerTree(h).bytes()
		for at := range data {
			for _, b := range []byte{0, 1, 127, 128, 129, 131, 132, 133, 191, 192, 193, 255, data[at] - 1, data[at] + 1, byte(r.IntN(256))} {
				changed := bytes.Clone(data)
				changed[at] = b
				wantTheirs(changed)
				wantTheirs(slices.Insert(bytes.Clone(data), at, b))
			}
			wantTheirs(slices.Delete(bytes.Clone(data), at, at+1))
		}
	}
	if read < 20000 {
		t.Errorf("no more than %d changed bytes were read", read)
	}
}

// fieldChanges change one field of a full header each, and leave it without a fault.
func fieldChanges() map[string]func(h *impl.Header) {
	return map[string]func(h *impl.Header){
		"Parent, first":     func(h *impl.Header) { h.Parent[0]++ },
		"Parent, last":      func(h *impl.Header) { h.Parent[31]++ },
		"Number":            func(h *impl.Header) { h.Number-- },
		"Number 0":          func(h *impl.Header) { h.Number = 0 },
		"Time":              func(h *impl.Header) { h.Time-- },
		"Hard":              func(h *impl.Header) { h.Hard-- },
		"Target":            func(h *impl.Header) { h.Target[3]++ },
		"Target empty":      func(h *impl.Header) { h.Target = nil },
		"Nonce":             func(h *impl.Header) { h.Nonce-- },
		"Signers, first":    func(h *impl.Header) { h.Signers[0][3]-- },
		"Signers, last":     func(h *impl.Header) { h.Signers[len(h.Signers)-1][3]++ },
		"Signers, one less": func(h *impl.Header) { h.Signers = h.Signers[:len(h.Signers)-1] },
		"Signers, one gone": func(h *impl.Header) { h.Signers = h.Signers[1:] },
		"Signers empty":     func(h *impl.Header) { h.Signers = nil },
		"Receipts, first":   func(h *impl.Header) { h.Receipts[0]++ },
		"Receipts, last":    func(h *impl.Header) { h.Receipts[31]++ },
		"Signer, first":     func(h *impl.Header) { h.Signer[0]++ },
		"Signer, last":      func(h *impl.Header) { h.Signer[3]++ },
	}
}

func sealChanges() map[string]func(h *impl.Header) {
	return map[string]func(h *impl.Header){
		"Seal, first": func(h *impl.Header) { h.Seal[0]++ },
		"Seal, last":  func(h *impl.Header) { h.Seal[3]++ },
		"Seal zeros":  func(h *impl.Header) { h.Seal = make([]byte, 4) },
		"Seal empty":  func(h *impl.Header) { h.Seal = nil },
	}
}

func commitChanges() map[string]func(h *impl.Header) {
	return map[string]func(h *impl.Header){
		"Commits, first":    func(h *impl.Header) { h.Commits[0][0]++ },
		"Commits, last":     func(h *impl.Header) { h.Commits[len(h.Commits)-1][7]++ },
		"Commits, one less": func(h *impl.Header) { h.Commits = h.Commits[1:] },
		"Commits, order":    func(h *impl.Header) { slices.Reverse(h.Commits) },
		"Commits empty":     func(h *impl.Header) { h.Commits = nil },
	}
}

// hashAs is the hash of a header with that seal, and without commits.
func hashAs(h impl.Header, seal []byte) []byte {
	h.Seal, h.Commits = seal, nil
	return impl.KeccakOf(headerTree(h).bytes()).Bytes
}

func TestP6KnownHashes(t *testing.T) {
	bare := unhex("af695481d5e02a43de32209c88f97c3265bc23d93ed01fb061c099f7adb15941")
	wantBytes(t, "HashOf a bare header", impl.HashOf(bareHeader()), impl.OK, bare)
	wantBytes(t, "SealHash of a bare header", impl.SealHash(bareHeader()), impl.OK, bare)
	wantBytes(t, "HashOf", impl.HashOf(knownHeader()), impl.OK, unhex("2fb80853e00ed67f56e3717110f3b7c52188ba8641365772503bc05f4b137516"))
	wantBytes(t, "SealHash", impl.SealHash(knownHeader()), impl.OK, unhex("3c6bc08a498aa6d31d2c8e5f5dfe9a3b86408cab05b09473145696f93c2a804a"))
}

func TestP6HashesAreThoseOfTheBytes(t *testing.T) {
	for _, h := range manyHeaders(300) {
		wantBytes(t, "HashOf", impl.HashOf(h), impl.OK, hashAs(h, h.Seal))
		wantBytes(t, "SealHash", impl.SealHash(h), impl.OK, hashAs(h, nil))
	}
	// The two are the same just where there is no seal.
	for _, h := range goodHeaders() {
		same := bytes.Equal(impl.HashOf(h).Bytes, impl.SealHash(h).Bytes)
		if same != (len(h.Seal) == 0) {
			t.Errorf("with a seal of %d bytes: is HashOf the SealHash? %v", len(h.Seal), same)
		}
		unsealed := withChange(h, func(h *impl.Header) { h.Seal = nil })
		wantBytes(t, "HashOf one with an empty seal", impl.HashOf(unsealed), impl.OK, impl.SealHash(h).Bytes)
		wantBytes(t, "SealHash of one with an empty seal", impl.SealHash(unsealed), impl.OK, impl.SealHash(h).Bytes)
		unsealed.Seal = []byte{}
		wantBytes(t, "HashOf one with a seal of no bytes", impl.HashOf(unsealed), impl.OK, impl.SealHash(h).Bytes)
		// A seal of zeros is not an empty one.
		zero := withChange(h, func(h *impl.Header) { h.Seal = make([]byte, 4) })
		if bytes.Equal(impl.HashOf(zero).Bytes, impl.SealHash(zero).Bytes) {
			t.Error("a seal of zeros is hashed as if there were none")
		}
	}
}

func TestP6HashesOfChangedHeaders(t *testing.T) {
	for _, h := range []impl.Header{fullHeader(), someHeader()} {
		hash, sealHash := impl.HashOf(h).Bytes, impl.SealHash(h).Bytes
		asks := []struct {
			changes      map[string]func(h *impl.Header)
			hash, sealed bool
		}{
			{fieldChanges(), false, false},
			{sealChanges(), false, true},
			{commitChanges(), true, true},
		}
		for _, ask := range asks {
			for name, change := range ask.changes {
				changed := withChange(h, change)
				wantHeaderFault(t, name, changed, impl.OK)
				if same := bytes.Equal(impl.HashOf(changed).Bytes, hash); same != ask.hash {
					t.Errorf("%s is changed: has it the same HashOf? %v", name, same)
				}
				if same := bytes.Equal(impl.SealHash(changed).Bytes, sealHash); same != ask.sealed {
					t.Errorf("%s is changed: has it the same SealHash? %v", name, same)
				}
			}
		}
	}
}

// What is left out of a hash must have no fault either.
func TestP6HashesAskAllFaults(t *testing.T) {
	for _, row := range headerFaultChanges() {
		for _, good := range goodHeaders() {
			h := withChange(good, row.change)
			wantBytes(t, "HashOf", impl.HashOf(h), row.code, nil)
			wantBytes(t, "SealHash", impl.SealHash(h), row.code, nil)
		}
	}
}

func wantSameHeaders(t *testing.T, call string, a impl.Header, b impl.Header, want bool) {
	t.Helper()
	if impl.SameHeaders(a, b) != want || impl.SameHeaders(b, a) != want {
		t.Errorf("SameHeaders of %s: %v, the other way around %v, want %v", call, impl.SameHeaders(a, b), impl.SameHeaders(b, a), want)
	}
}

func TestP6SameHeaders(t *testing.T) {
	for i, h := range goodHeaders() {
		wantSameHeaders(t, "one and itself", h, h, true)
		wantSameHeaders(t, "one and itself in other memory", h, cloneHeader(h), true)
		for j, other := range goodHeaders() {
			wantSameHeaders(t, "two of several", h, other, i == j)
		}
	}
	for _, h := range []impl.Header{fullHeader(), someHeader()} {
		for _, changes := range []map[string]func(h *impl.Header){fieldChanges(), sealChanges(), commitChanges()} {
			for name, change := range changes {
				changed := withChange(h, change)
				wantSameHeaders(t, "one with another "+name, h, changed, false)
				wantSameHeaders(t, "both with another "+name, withChange(h, change), changed, true)
			}
		}
	}
}

func TestP6SameHeadersOfEmptyThings(t *testing.T) {
	empty := impl.Header{Parent: []byte{}, Target: []byte{}, Signers: [][]byte{}, Receipts: []byte{}, Signer: []byte{}, Seal: []byte{}, Commits: [][]byte{}}
	wantSameHeaders(t, "nil and empty", impl.Header{}, empty, true)
	holds := impl.Header{Signers: [][]byte{nil}, Commits: [][]byte{{}}}
	wantSameHeaders(t, "lists of nil and of empty", holds, impl.Header{Signers: [][]byte{{}}, Commits: [][]byte{nil}}, true)
	wantSameHeaders(t, "no signer and an empty one", impl.Header{}, impl.Header{Signers: [][]byte{nil}}, false)
	wantSameHeaders(t, "no commit and an empty one", impl.Header{}, impl.Header{Commits: [][]byte{nil}}, false)
	wantSameHeaders(t, "one and two empty commits", impl.Header{Commits: [][]byte{nil}}, impl.Header{Commits: [][]byte{nil, nil}}, false)
	wantSameHeaders(t, "the same bytes, split otherwise", impl.Header{Signers: [][]byte{{1}, {2, 3}}}, impl.Header{Signers: [][]byte{{1, 2}, {3}}}, false)
	wantSameHeaders(t, "the same bytes in other fields", impl.Header{Target: addr(1)}, impl.Header{Signer: addr(1)}, false)
}

// Faults do not matter where two are held against each other.
func TestP6SameHeadersOfFaultyOnes(t *testing.T) {
	rows := headerFaultChanges()
	for i, a := range rows {
		for j, b := range rows {
			one, two := withChange(fullHeader(), a.change), withChange(fullHeader(), b.change)
			wantSameHeaders(t, "two with faults", one, two, i == j)
		}
		wantSameHeaders(t, "one with and one without a fault", withChange(fullHeader(), a.change), fullHeader(), false)
	}
}
