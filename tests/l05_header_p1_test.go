package tests

import (
	"bytes"
	"math"
	"reflect"
	"slices"
	"testing"

	"loop.example/g00383/impl"
)

// headerArguments are headers of every kind that chapter 5 tells apart, with and without a fault.
func headerArguments() []impl.Header {
	list := append(manyHeaders(5), impl.Header{}, knownHeader())
	for _, row := range headerFaultChanges() {
		list = append(list, withChange(fullHeader(), row.change), withChange(bareHeader(), row.change))
	}
	for _, n := range []int64{math.MinInt64, math.MaxInt64} {
		h := fullHeader()
		h.Number, h.Time, h.Hard, h.Nonce = n, n, n, n
		list = append(list, h, impl.Header{Number: n, Time: n, Hard: n, Nonce: n})
	}
	long := fullHeader()
	long.Signers, long.Commits = slices.Repeat([][]byte{fill(4)}, 1<<12), slices.Repeat([][]byte{fill(8)}, 1<<12)
	huge := impl.Header{Parent: fill(1 << 16), Target: fill(1 << 16), Receipts: fill(1 << 16), Signer: fill(1 << 16), Seal: fill(1 << 16), Signers: make([][]byte, 1<<12), Commits: make([][]byte, 1<<12)}
	return append(list, long, huge)
}

func packedArguments() [][]byte {
	list := append(rlpArguments(), repeated(leaf(), 11).bytes(), repeated(listOf(), 11).bytes())
	for _, h := range goodHeaders() {
		data := headerTree(h).bytes()
		list = append(list, data, data[1:], data[:len(data)-1], append(bytes.Clone(data), 0), make([]byte, len(data)))
		for at := range 11 {
			list = append(list, withPart(h, at, listOf()), withPart(h, at, leaf(0)), withPart(h, at, leaf(fill(300)...)))
		}
	}
	return list
}

func signersArguments() [][][]byte {
	return [][][]byte{
		nil, {}, {nil}, {{}}, {addr(1)}, {addr(1), addr(1)}, {addr(2), addr(1)}, {fill(3)}, {fill(5)}, {addr(1), nil}, {nil, addr(1)},
		risingAddrs(7), risingAddrs(8), make([][]byte, 7), make([][]byte, 1<<16), {fill(1 << 16)},
	}
}

// roomySigners are the same lists, in memory with more room than they show.
func roomySigners() [][][]byte {
	var roomy [][][]byte
	for _, list := range signersArguments() {
		if len(list) < 1<<16 {
			list = allWithRoom(list, 7)
		}
		roomy = append(roomy, withRoom(list, addr(77)))
	}
	return roomy
}

type headerAnswers struct {
	Fault, Signers       []int64
	Packed, Hash, Sealed []impl.BytesResult
	Read                 []impl.HeaderResult
	Same                 []bool
}

// askHeaders calls each function of chapter 5 with each argument, and with each two headers.
func askHeaders(headers []impl.Header, datas [][]byte, lists [][][]byte) headerAnswers {
	var all headerAnswers
	for _, a := range headers {
		all.Fault = append(all.Fault, impl.HeaderFault(a))
		all.Packed = append(all.Packed, impl.PackHeader(a))
		all.Hash = append(all.Hash, impl.HashOf(a))
		all.Sealed = append(all.Sealed, impl.SealHash(a))
		for _, b := range headers {
			all.Same = append(all.Same, impl.SameHeaders(a, b))
		}
	}
	for _, data := range datas {
		all.Read = append(all.Read, impl.UnpackHeader(data))
	}
	for _, list := range lists {
		all.Signers = append(all.Signers, impl.SignersFault(list))
	}
	return all
}

func TestP1HeadersAnswerAtEveryArgument(t *testing.T) {
	all := askHeaders(headerArguments(), packedArguments(), signersArguments())
	faults := []int64{impl.ErrForm, impl.ErrRange, impl.ErrMany}
	for i, code := range all.Fault {
		if code != impl.OK && !slices.Contains(faults, code) {
			t.Errorf("HeaderFault at %d: %d", i, code)
		}
		// Each of these tells that same fault.
		for _, r := range []impl.BytesResult{all.Packed[i], all.Hash[i], all.Sealed[i]} {
			if r.Code != code {
				t.Errorf("the header at %d: code %d, its fault is %d", i, r.Code, code)
			}
		}
		wantLength(t, "PackHeader", i, all.Packed[i].Code, min(len(all.Packed[i].Bytes), 1), faults, 1)
		wantLength(t, "HashOf", i, all.Hash[i].Code, len(all.Hash[i].Bytes), faults, 32)
		wantLength(t, "SealHash", i, all.Sealed[i].Code, len(all.Sealed[i].Bytes), faults, 32)
	}
	for i, code := range all.Signers {
		if !slices.Contains([]int64{impl.OK, impl.ErrMany, impl.ErrForm}, code) {
			t.Errorf("SignersFault at %d: %d", i, code)
		}
	}
	for i, r := range all.Read {
		nothing := impl.HeaderResult{Code: r.Code}
		if r.Code == impl.OK && impl.HeaderFault(r.Header) != impl.OK || r.Code != impl.OK && !reflect.DeepEqual(r, nothing) {
			t.Errorf("UnpackHeader at %d: %+v", i, r)
		}
	}
}

// roomyHeader is the same header, in memory with more room than it shows.
func roomyHeader(h impl.Header) impl.Header {
	for _, data := range headerData(&h) {
		*data = withRoom(*data, 7)
	}
	for _, list := range []*[][]byte{&h.Signers, &h.Commits} {
		*list = withRoom(allWithRoom(*list, 7), fill(4))
	}
	return h
}

// headerData are the fields of a header that are bytes.
func headerData(h *impl.Header) []*[]byte {
	return []*[]byte{&h.Parent, &h.Target, &h.Receipts, &h.Signer, &h.Seal}
}

func TestP1HeadersHangOnTheArgumentsAlone(t *testing.T) {
	first := askHeaders(headerArguments(), packedArguments(), signersArguments())
	again := askHeaders(headerArguments(), packedArguments(), signersArguments())
	if !reflect.DeepEqual(first, again) {
		t.Error("the same arguments are answered otherwise the second time")
	}
	var roomy []impl.Header
	for _, h := range headerArguments() {
		roomy = append(roomy, roomyHeader(h))
	}
	if !reflect.DeepEqual(first, askHeaders(roomy, allWithRoom(packedArguments(), 5), roomySigners())) {
		t.Error("an answer hangs on what is behind an argument")
	}
}

// An answer must not hang on what was asked ahead of it.
func TestP1HeadersAnswerTheSameBehindAFault(t *testing.T) {
	h := fullHeader()
	data := headerTree(h).bytes()
	for _, other := range packedArguments() {
		impl.UnpackHeader(other)
		wantHeader(t, "UnpackHeader behind another one", impl.UnpackHeader(data), impl.OK, h)
	}
	for _, other := range headerArguments() {
		askHeaders([]impl.Header{other}, nil, nil)
		wantBytes(t, "PackHeader behind another one", impl.PackHeader(h), impl.OK, data)
	}
}

func TestP1HeadersAnswerSideBySide(t *testing.T) {
	headers := manyHeaders(8)
	wantSideBySide(t, 200, func(i int) func() bool {
		h, other := headers[i], headers[i+1]
		data, hash, sealed := impl.PackHeader(h).Bytes, impl.HashOf(h).Bytes, impl.SealHash(h).Bytes
		return func() bool {
			same := bytes.Equal(impl.PackHeader(h).Bytes, data) && impl.SameHeaders(impl.UnpackHeader(data).Header, h) && !impl.SameHeaders(h, other)
			same = same && bytes.Equal(impl.HashOf(h).Bytes, hash) && bytes.Equal(impl.SealHash(h).Bytes, sealed)
			return same && impl.HeaderFault(h) == impl.OK && impl.UnpackHeader(data[1:]).Code == impl.ErrText
		}
	})
}

// wholeLists copies all that lists may reach, the room behind them and behind what is in them too.
func wholeLists(lists [][]byte) [][]byte {
	whole := slices.Clone(lists[:cap(lists)])
	for i, data := range whole {
		whole[i] = bytes.Clone(data[:cap(data)])
	}
	return whole
}

func wholeHeader(h impl.Header) impl.Header {
	for _, data := range headerData(&h) {
		*data = bytes.Clone((*data)[:cap(*data)])
	}
	h.Signers, h.Commits = wholeLists(h.Signers), wholeLists(h.Commits)
	return h
}

func TestP1HeadersChangeNoArgument(t *testing.T) {
	for i, h := range headerArguments() {
		shown := roomyHeader(h)
		before := wholeHeader(shown)
		askHeaders([]impl.Header{shown, fullHeader(), {}}, nil, [][][]byte{shown.Signers, shown.Commits})
		if !reflect.DeepEqual(wholeHeader(shown), before) {
			t.Errorf("the header at %d, or what is behind it, was changed", i)
		}
	}
	wantUnchanged(t, packedArguments(), 99, func(data []byte) { impl.UnpackHeader(data) })
}

// memoryOf are all bytes of a header that an answer may share; each with the room behind it.
func memoryOf(h impl.Header) [][]byte {
	var all [][]byte
	for _, data := range headerData(&h) {
		all = append(all, *data)
	}
	return append(append(all, h.Signers...), h.Commits...)
}

func spoilHeader(h impl.Header) {
	for _, data := range memoryOf(h) {
		spoil(data, 77)
	}
	spoil(h.Signers, []byte{77})
	spoil(h.Commits, []byte{77})
}

func wantBytesApart(t *testing.T, call string, ask func() []byte) {
	t.Helper()
	one, two := ask(), ask()
	kept := bytes.Clone(two)
	_ = append(one, 77, 77, 77)
	spoil(one, 77)
	if !bytes.Equal(two, kept) || !bytes.Equal(ask(), kept) {
		t.Errorf("%s: an answer is changed with another one", call)
	}
}

func TestP1HeadersAnswersShareNoMemory(t *testing.T) {
	for _, good := range goodHeaders() {
		h := roomyHeader(good)
		whole := wholeHeader(h)
		wantBytesApart(t, "PackHeader", func() []byte { return impl.PackHeader(h).Bytes })
		wantBytesApart(t, "HashOf", func() []byte { return impl.HashOf(h).Bytes })
		wantBytesApart(t, "SealHash", func() []byte { return impl.SealHash(h).Bytes })
		if !reflect.DeepEqual(wholeHeader(h), whole) {
			t.Error("an argument is changed with an answer")
		}

		data := withRoom(headerTree(good).bytes(), 9)
		kept := bytes.Clone(data[:cap(data)])
		one, two := impl.UnpackHeader(data), impl.UnpackHeader(data)
		spoilHeader(one.Header)
		wantHeader(t, "UnpackHeader beside a changed answer", two, impl.OK, good)
		wantHeader(t, "UnpackHeader behind a changed answer", impl.UnpackHeader(data), impl.OK, good)
		if !bytes.Equal(data[:cap(data)], kept) {
			t.Error("bytes are changed with the header that was read from them")
		}
	}
}

// One list of a header that was read is changed, the room behind it too: all others stay.
func TestP1HeadersListsOfOneAnswerStayApart(t *testing.T) {
	for _, good := range goodHeaders() {
		data := headerTree(good).bytes()
		count := len(memoryOf(good))
		for changed := range count {
			memory := memoryOf(impl.UnpackHeader(data).Header)
			before := cloneLists(memory)
			spoil(memory[changed], 77)
			for at := range count {
				if at != changed && !bytes.Equal(memory[at], before[at]) {
					t.Errorf("the bytes at %d are changed with those at %d", at, changed)
				}
			}
		}
		read := impl.UnpackHeader(data).Header
		spoil(read.Signers, []byte{77})
		if !equalLists(read.Commits, good.Commits) {
			t.Error("Commits are changed with Signers")
		}
		read = impl.UnpackHeader(data).Header
		spoil(read.Commits, []byte{77})
		if !equalLists(read.Signers, good.Signers) {
			t.Error("Signers are changed with Commits")
		}
	}
}

func TestP1HeadersAnswersDoNotFollowTheirArguments(t *testing.T) {
	for _, good := range goodHeaders() {
		h, data := cloneHeader(good), headerTree(good).bytes()
		packed, hash, sealed, read := impl.PackHeader(h), impl.HashOf(h), impl.SealHash(h), impl.UnpackHeader(data)
		spoilHeader(h)
		spoil(data, 77)
		wantBytes(t, "PackHeader, its argument changed since", packed, impl.OK, headerTree(good).bytes())
		wantBytes(t, "HashOf, its argument changed since", hash, impl.OK, hashAs(good, good.Seal))
		wantBytes(t, "SealHash, its argument changed since", sealed, impl.OK, hashAs(good, nil))
		wantHeader(t, "UnpackHeader, its argument changed since", read, impl.OK, good)
	}
}
