package tests

import (
	"bytes"
	"math/rand/v2"
	"slices"
	"testing"

	"loop.example/g00383/impl"
)

// markAs are the first 4 bytes of the hash of all parts, one behind the other.
func markAs(parts ...[]byte) []byte {
	return bytes.Clone(impl.KeccakOf(slices.Concat(parts...)).Bytes[:4])
}

// sealAs is what the chapter says that a seal is.
func sealAs(addr []byte, hash []byte) []byte {
	return markAs(addr, hash)
}

// commitAs is what the chapter says that a commit is.
func commitAs(addr []byte, hash []byte) []byte {
	return slices.Concat(addr, markAs(addr, []byte{1}, hash))
}

// signedAs is what the chapter says that a header is signed as.
func signedAs(h impl.Header) impl.Header {
	signed := cloneHeader(h)
	signed.Seal, signed.Commits = sealAs(h.Signer, hashAs(h, nil)), nil
	return signed
}

// flipped is the same bytes with one bit changed.
func flipped(data []byte, bit int) []byte {
	changed := bytes.Clone(data)
	changed[bit/8] ^= 1 << (bit % 8)
	return changed
}

// signedHeaders are signed as the chapter says, without the help of what is tested.
func signedHeaders() []impl.Header {
	var list []impl.Header
	for _, h := range append(goodHeaders(), knownHeader()) {
		list = append(list, signedAs(h))
	}
	return list
}

func TestP7SealAndCommitOfLengths(t *testing.T) {
	for _, addrBytes := range []int{0, 1, 3, 4, 5, 8, 32, 1201} {
		for _, hashBytes := range []int{0, 1, 4, 31, 32, 33, 64, 1201} {
			addr, hash := fill(addrBytes), fill(hashBytes)
			if addrBytes == 4 && hashBytes == 32 {
				wantBytes(t, "SealOf", impl.SealOf(addr, hash), impl.OK, sealAs(addr, hash))
				wantBytes(t, "CommitOf", impl.CommitOf(addr, hash), impl.OK, commitAs(addr, hash))
				continue
			}
			wantBytes(t, "SealOf what has not so many bytes", impl.SealOf(addr, hash), impl.ErrForm, nil)
			wantBytes(t, "CommitOf what has not so many bytes", impl.CommitOf(addr, hash), impl.ErrForm, nil)
		}
	}
	for _, ask := range []func(addr []byte, hash []byte) impl.BytesResult{impl.SealOf, impl.CommitOf} {
		wantBytes(t, "nothing at all", ask(nil, nil), impl.ErrForm, nil)
		wantBytes(t, "no address", ask(nil, fill(32)), impl.ErrForm, nil)
		wantBytes(t, "no hash", ask(fill(4), nil), impl.ErrForm, nil)
		// All together they have as many bytes as are right.
		wantBytes(t, "36 bytes, cut elsewhere", ask(fill(5), fill(31)), impl.ErrForm, nil)
		wantBytes(t, "36 bytes, the other way around", ask(fill(32), fill(4)), impl.ErrForm, nil)
	}
}

// The bytes were worked out apart from the program.
func TestP7KnownSealsAndCommits(t *testing.T) {
	rows := []struct {
		addr, hash   []byte
		seal, commit string
	}{
		{addr(0), make([]byte, 32), "74723bc3", "00000000 71eb70be"},
		{addr(1), fill(32), "0a00bfe8", "00000001 22a0f51b"},
		{addr(0xfffefdfc), bytes.Repeat([]byte{255}, 32), "7669bb36", "fffefdfc 7f626a2b"},
	}
	for _, row := range rows {
		wantBytes(t, "SealOf", impl.SealOf(row.addr, row.hash), impl.OK, unhex(row.seal))
		wantBytes(t, "CommitOf", impl.CommitOf(row.addr, row.hash), impl.OK, unhex(row.commit))
	}
}

func TestP7SealsAndCommitsAreThoseOfTheBytes(t *testing.T) {
	r := rand.New(rand.NewPCG(61, 62))
	for range 500 {
		addr, hash := randomBytes(r, 4), randomBytes(r, 32)
		seal, commit := impl.SealOf(addr, hash), impl.CommitOf(addr, hash)
		wantBytes(t, "SealOf", seal, impl.OK, sealAs(addr, hash))
		wantBytes(t, "CommitOf", commit, impl.OK, commitAs(addr, hash))
		if len(seal.Bytes) != 4 || len(commit.Bytes) != 8 || !bytes.Equal(commit.Bytes[:4], addr) {
			t.Errorf("the seal %x, the commit %x of %x", seal.Bytes, commit.Bytes, addr)
		}
		// The byte 1 keeps them apart, and stands between the two alone.
		for _, other := range [][]byte{seal.Bytes, markAs([]byte{1}, addr, hash), markAs(addr, hash, []byte{1}), markAs(addr, []byte{0}, hash)} {
			if bytes.Equal(commit.Bytes[4:], other) {
				t.Errorf("the commit %x is made of other bytes", commit.Bytes)
			}
		}
	}
}

func TestP7SealsAndCommitsHangOnEachBit(t *testing.T) {
	who, hash := addr(0x51), fill(32)
	seals, commits := map[string]bool{}, map[string]bool{}
	tell := func(addr []byte, hash []byte) {
		seals[string(impl.SealOf(addr, hash).Bytes)] = true
		commits[string(impl.CommitOf(addr, hash).Bytes[4:])] = true
	}
	tell(who, hash)
	for bit := range 32 {
		tell(flipped(who, bit), hash)
	}
	for bit := range 256 {
		tell(who, flipped(hash, bit))
	}
	if len(seals) != 289 || len(commits) != 289 {
		t.Errorf("of 289 pairs there are %d seals and %d commits", len(seals), len(commits))
	}
}

func TestP7SignHeaderKnown(t *testing.T) {
	rows := []struct {
		h          impl.Header
		seal, hash string
	}{
		{bareHeader(), "4791af78", "f52c9c56e321172499aaab27cb2b5e8e4e3721c566cd44980f5e72e6bf373f19"},
		{knownHeader(), "fcfed198", "0d8fccaf344d8acb8f1b31fd59c5a633a495deb1d9d5b221a5e44b6ad55fc3fe"},
	}
	for _, row := range rows {
		want := withChange(row.h, func(h *impl.Header) { h.Seal, h.Commits = unhex(row.seal), nil })
		got := impl.SignHeader(row.h)
		wantHeader(t, "SignHeader", got, impl.OK, want)
		wantBytes(t, "HashOf what is signed", impl.HashOf(got.Header), impl.OK, unhex(row.hash))
	}
}

func TestP7SignHeaderGivesTheSealAndLeavesTheRest(t *testing.T) {
	for _, h := range manyHeaders(300) {
		signed := signedAs(h)
		wantHeader(t, "SignHeader", impl.SignHeader(h), impl.OK, signed)
		wantBytes(t, "SealOf its Signer and SealHash", impl.SealOf(h.Signer, impl.SealHash(h).Bytes), impl.OK, signed.Seal)
		wantHeader(t, "SignHeader of what is signed", impl.SignHeader(signed), impl.OK, signed)
		wantHeader(t, "SignHeader of what SignHeader gave", impl.SignHeader(impl.SignHeader(h).Header), impl.OK, signed)
		wantHeaderFault(t, "what is signed", impl.SignHeader(h).Header, impl.OK)
	}
}

// Whatever seal and whatever commits are there already, the seal is the same, and the commits are gone.
func TestP7TheSealDoesNotHangOnItself(t *testing.T) {
	for _, good := range goodHeaders() {
		signed := signedAs(good)
		seals := [][]byte{nil, {}, make([]byte, 4), {255, 255, 255, 255}, signed.Seal, flipped(signed.Seal, 0), flipped(signed.Seal, 31)}
		for _, seal := range seals {
			for commits := range 8 {
				h := withChange(good, func(h *impl.Header) { h.Seal, h.Commits = seal, someCommits(commits) })
				wantHeader(t, "SignHeader with some seal and commits", impl.SignHeader(h), impl.OK, signed)
			}
			h := withChange(good, func(h *impl.Header) { h.Seal = seal })
			committed := impl.CommitHeader(h, risingAddrs(7)).Header
			wantHeader(t, "SignHeader of what has commits that are right", impl.SignHeader(committed), impl.OK, signed)
		}
	}
}

func TestP7SignHeaderFaults(t *testing.T) {
	for _, good := range append(goodHeaders(), signedHeaders()...) {
		for _, row := range headerFaultChanges() {
			h := withChange(good, row.change)
			wantHeader(t, "SignHeader of one with a fault", impl.SignHeader(h), row.code, impl.Header{})
		}
	}
	wantHeader(t, "SignHeader of nothing", impl.SignHeader(impl.Header{}), impl.ErrForm, impl.Header{})
}

func wantSealRight(t *testing.T, call string, h impl.Header, want bool) {
	t.Helper()
	if got := impl.SealRight(h); got != want {
		t.Errorf("SealRight of %s: %v, want %v", call, got, want)
	}
}

func TestP7SealRightOfWhatIsSigned(t *testing.T) {
	for _, h := range manyHeaders(300) {
		wantSealRight(t, "what SignHeader gave", impl.SignHeader(h).Header, true)
		wantSealRight(t, "what is signed as the chapter says", signedAs(h), true)
		wantSealRight(t, "what has another seal, or none", h, false)
	}
}

func TestP7SealRightOfOtherSeals(t *testing.T) {
	for _, signed := range signedHeaders() {
		sealHash := hashAs(signed, nil)
		var seals [][]byte
		for bit := range 32 {
			seals = append(seals, flipped(signed.Seal, bit))
		}
		seals = append(seals, nil, []byte{}, make([]byte, 4))
		// These are near to it: of the hash with the seal in it, of a commit, and of another one.
		seals = append(seals, sealAs(signed.Signer, hashAs(signed, signed.Seal)), commitAs(signed.Signer, sealHash)[4:], sealAs(addr(0x52), sealHash))
		seals = append(seals, sealHash[:4], signed.Seal[:3], append(bytes.Clone(signed.Seal), 0))
		for _, seal := range seals {
			wantSealRight(t, "another seal", withChange(signed, func(h *impl.Header) { h.Seal = seal }), false)
		}
		wantSealRight(t, "its own seal in other memory", cloneHeader(signed), true)
	}
}

func TestP7SealRightOfChangedHeaders(t *testing.T) {
	for _, h := range []impl.Header{fullHeader(), someHeader()} {
		for _, committed := range []bool{false, true} {
			signed := signedAs(h)
			if committed {
				signed.Commits = cloneLists(h.Commits)
			}
			for name, change := range fieldChanges() {
				changed := withChange(signed, change)
				wantHeaderFault(t, name, changed, impl.OK)
				wantSealRight(t, "one whose "+name+" is changed", changed, false)
				wantSealRight(t, "one that is signed again behind "+name, impl.SignHeader(changed).Header, true)
			}
			for name, change := range sealChanges() {
				wantSealRight(t, "one whose "+name+" is changed", withChange(signed, change), false)
			}
		}
	}
}

// Who signs is told by the seal: it is right for one of all alone.
func TestP7TheSealTellsWhoSigns(t *testing.T) {
	for _, good := range goodHeaders() {
		for i, signer := range risingAddrs(7) {
			signed := impl.SignHeader(withChange(good, func(h *impl.Header) { h.Signer = signer })).Header
			for j, other := range risingAddrs(7) {
				wantSealRight(t, "one that another one signed", withChange(signed, func(h *impl.Header) { h.Signer = other }), i == j)
			}
		}
	}
}

// A hash leaves the commits out: with whatever commits, the seal stays right.
func TestP7SealRightWithCommits(t *testing.T) {
	for _, signed := range signedHeaders() {
		for n := range 8 {
			wantSealRight(t, "one with commits", withChange(signed, func(h *impl.Header) { h.Commits = someCommits(n) }), true)
			wantSealRight(t, "one that was committed", impl.CommitHeader(signed, risingAddrs(n)).Header, true)
		}
		same := slices.Repeat([][]byte{fill(8)}, 7)
		wantSealRight(t, "one with the same commit over and over", withChange(signed, func(h *impl.Header) { h.Commits = same }), true)
	}
}

func TestP7SealRightOfFaults(t *testing.T) {
	for _, signed := range signedHeaders() {
		for _, row := range headerFaultChanges() {
			h := withChange(signed, row.change)
			wantSealRight(t, "one with a fault", h, false)
			// What cannot be hashed has no seal, and an empty one is not that.
			h.Seal = nil
			wantSealRight(t, "one with a fault and no seal", h, false)
		}
		// The seal itself is right for these.
		wantSealRight(t, "one with 8 commits", withChange(signed, func(h *impl.Header) { h.Commits = someCommits(8) }), false)
		wantSealRight(t, "one with a commit of 7 bytes", withChange(signed, func(h *impl.Header) { h.Commits = [][]byte{fill(7)} }), false)
	}
	wantSealRight(t, "nothing", impl.Header{}, false)
}
