package tests

import (
	"bytes"
	"crypto/sha3"
	"encoding/binary"
	"encoding/hex"
	"math"
	"math/big"
	"slices"
	"testing"

	"loop.example/g00383/impl"
)

const topWord = int64(1)<<32 - 1

const stateWords = 50

func wantInts(t *testing.T, call string, got impl.IntsResult, code int64, list []int64) {
	t.Helper()
	if got.Code != code || !slices.Equal(got.List, list) {
		t.Errorf("%s: %+v, want code %d and %v", call, got, code, list)
	}
}

// noWords are numbers out of a word's bounds, near and far.
func noWords() []int64 {
	return []int64{-1, topWord + 1, -topWord, 1 << 33, 1 << 62, math.MinInt64, math.MinInt64 + 1, math.MaxInt64}
}

// fillWords gives n words in which high and low bits come, and neighbours differ.
func fillWords(n int) []int64 {
	words := make([]int64, n)
	for i := range words {
		words[i] = int64(uint32(i+1) * 2654435761)
	}
	return words
}

// mixAgain calls MixState times over, from a state without a fault on.
func mixAgain(t *testing.T, state []int64, times int) []int64 {
	t.Helper()
	for range times {
		got := impl.MixState(state)
		if got.Code != impl.OK || len(got.List) != stateWords {
			t.Fatalf("MixState: code %d and %d numbers", got.Code, len(got.List))
		}
		state = got.List
	}
	return state
}

func wordsOfLanes(lanes []uint64) []int64 {
	var words []int64
	for _, lane := range lanes {
		words = append(words, int64(lane>>32), int64(lane&0xffffffff))
	}
	return words
}

func TestP3Constants(t *testing.T) {
	if impl.HashBytes != 32 || impl.RateBytes != 136 {
		t.Errorf("HashBytes is %d, RateBytes %d", impl.HashBytes, impl.RateBytes)
	}
}

func TestP3TurnLaneKnown(t *testing.T) {
	known := []struct{ high, low, n, wantHigh, wantLow int64 }{
		{1, 2, 0, 1, 2}, {1, 2, 1, 2, 4}, {1, 2, 31, 1<<31 + 1, 0}, {1, 2, 32, 2, 1}, {1, 2, 33, 4, 2}, {1, 2, 63, 0, 1<<31 + 1},
		{1 << 31, 0, 1, 0, 1}, {0, 1 << 31, 1, 1, 0}, {0, 1, 31, 0, 1 << 31}, {0, 1, 32, 1, 0}, {0, 1, 63, 1 << 31, 0}, {1, 0, 32, 0, 1},
		{0, 0, 17, 0, 0}, {topWord, 0, 32, 0, topWord}, {0, topWord, 32, topWord, 0}, {topWord, topWord, 5, topWord, topWord},
		{0, topWord, 1, 1, topWord - 1}, {topWord, 0, 1, topWord - 1, 1}, {0x01234567, 0x89abcdef, 4, 0x12345678, 0x9abcdef0},
		{0x01234567, 0x89abcdef, 36, 0x9abcdef0, 0x12345678},
	}
	for _, k := range known {
		wantInts(t, "TurnLane", impl.TurnLane(k.high, k.low, k.n), impl.OK, []int64{k.wantHigh, k.wantLow})
	}
}

// turnedBy tells what a turn is by numbers alone: what leaves at the top comes in below.
func turnedBy(high, low, n int64) []int64 {
	whole := new(big.Int).Lsh(big.NewInt(1), 64)
	lane := new(big.Int).Add(new(big.Int).Lsh(big.NewInt(high), 32), big.NewInt(low))
	out, kept := new(big.Int).DivMod(lane.Lsh(lane, uint(n)), whole, new(big.Int))
	kept.Add(kept, out)
	first, second := new(big.Int).DivMod(kept, big.NewInt(topWord+1), new(big.Int))
	return []int64{first.Int64(), second.Int64()}
}

func TestP3TurnLane(t *testing.T) {
	words := []int64{0, 1, 2, 0x80000000, 0x7fffffff, 0x89abcdef, topWord - 1, topWord}
	for _, high := range words {
		for _, low := range words {
			for n := range int64(64) {
				wantInts(t, "TurnLane", impl.TurnLane(high, low, n), impl.OK, turnedBy(high, low, n))
			}
		}
	}
}

func TestP3LaneTurnedAllAroundIsItself(t *testing.T) {
	lanes := [][]int64{{0, 0}, {0, 1}, {1 << 31, 0}, {0x01234567, 0x89abcdef}, {topWord, 0}, {0, topWord}, {topWord, topWord}}
	for _, lane := range lanes {
		wantInts(t, "TurnLane by 0", impl.TurnLane(lane[0], lane[1], 0), impl.OK, lane)
		for n := int64(1); n < 64; n++ {
			there := impl.TurnLane(lane[0], lane[1], n)
			if len(there.List) != 2 {
				t.Fatalf("TurnLane by %d: %+v", n, there)
			}
			wantInts(t, "TurnLane by n and the rest", impl.TurnLane(there.List[0], there.List[1], 64-n), impl.OK, lane)
		}
		step := impl.IntsResult{List: lane}
		for range 64 {
			step = impl.TurnLane(step.List[0], step.List[1], 1)
		}
		wantInts(t, "TurnLane 64 times by 1", step, impl.OK, lane)
	}
}

func TestP3TurnLaneOutOfBounds(t *testing.T) {
	for _, n := range []int64{-1, 64, -32, -64, 65, 96, 128, 1 << 32, math.MinInt64, math.MaxInt64} {
		wantInts(t, "TurnLane by no number of bits", impl.TurnLane(1, 2, n), impl.ErrRange, nil)
	}
	for _, no := range noWords() {
		for _, n := range []int64{0, 1, 32, 63, 64} {
			wantInts(t, "TurnLane with a high one that is no word", impl.TurnLane(no, 2, n), impl.ErrRange, nil)
			wantInts(t, "TurnLane with a low one that is no word", impl.TurnLane(1, no, n), impl.ErrRange, nil)
			wantInts(t, "TurnLane of no words", impl.TurnLane(no, no, n), impl.ErrRange, nil)
		}
	}
}

func TestP3MixStateOfZeros(t *testing.T) {
	once := wordsOfLanes([]uint64{
		0xf1258f7940e1dde7, 0x84d5ccf933c0478a, 0xd598261ea65aa9ee, 0xbd1547306f80494d, 0x8b284e056253d057,
		0xff97a42d7f8e6fd4, 0x90fee5a0a44647c4, 0x8c5bda0cd6192e76, 0xad30a6f71b19059c, 0x30935ab7d08ffc64,
		0xeb5aa93f2317d635, 0xa9a6e6260d712103, 0x81a57c16dbcf555f, 0x43b831cd0347c826, 0x01f22f1a11a5569f,
		0x05e5635a21d9ae61, 0x64befef28cc970f2, 0x613670957bc46611, 0xb87c5a554fd00ecb, 0x8c3ee88a1ccf32c8,
		0x940c7922ae3a2614, 0x1841f924a2c509e4, 0x16f53526e70465c2, 0x75f644e97f30a13b, 0xeaf1ff7b5ceca249,
	})
	twice := wordsOfLanes([]uint64{
		0x2d5c954df96ecb3c, 0x6a332cd07057b56d, 0x093d8d1270d76b6c, 0x8a20d9b25569d094, 0x4f9c4f99e5e7f156,
		0xf957b9a2da65fb38, 0x85773dae1275af0d, 0xfaf4f247c3d810f7, 0x1f1b9ee6f79a8759, 0xe4fecc0fee98b425,
		0x68ce61b6b9ce68a1, 0xdeea66c4ba8f974f, 0x33c43d836eafb1f5, 0xe00654042719dbd9, 0x7cf8a9f009831265,
		0xfd5449a6bf174743, 0x97ddad33d8994b40, 0x48ead5fc5d0be774, 0xe3b8c8ee55b7b03c, 0x91a0226e649e42e9,
		0x900e3129e7badd7b, 0x202a9ec5faa3cce8, 0x5b3402464e1c3db6, 0x609f4e62a44c1059, 0x20d06cd26a8fbf5c,
	})
	zeros := make([]int64, stateWords)
	wantInts(t, "MixState of zeros", impl.MixState(zeros), impl.OK, once)
	wantInts(t, "MixState of zeros again", impl.MixState(once), impl.OK, twice)
}

func TestP3StateStaysOneOf50Words(t *testing.T) {
	full := make([]int64, stateWords)
	for i := range full {
		full[i] = topWord
	}
	for _, state := range [][]int64{make([]int64, stateWords), full, fillWords(stateWords)} {
		for range 200 {
			state = mixAgain(t, state, 1)
			for i, n := range state {
				if n < 0 || n > topWord {
					t.Fatalf("the number at %d is %d", i, n)
				}
			}
		}
	}
}

// One bit, in whichever word, comes to be seen: no word is left out, and no two states become one.
func TestP3MixStateHangsOnEachWord(t *testing.T) {
	seen := map[string]int{}
	for at := range stateWords {
		for _, bit := range []int64{1, 1 << 31} {
			state := make([]int64, stateWords)
			state[at] = bit
			seen[hex.EncodeToString(bytesOfState(mixAgain(t, state, 1)))]++
		}
	}
	if len(seen) != 2*stateWords {
		t.Errorf("%d states become %d", 2*stateWords, len(seen))
	}
}

func TestP3MixStateWrong(t *testing.T) {
	for _, n := range []int{0, 1, 2, 25, 48, 49, 51, 52, 100, 5000} {
		wantInts(t, "MixState of another count", impl.MixState(fillWords(n)), impl.ErrForm, nil)
	}
	wantInts(t, "MixState of nil", impl.MixState(nil), impl.ErrForm, nil)
	for _, no := range noWords() {
		for at := range stateWords {
			state := fillWords(stateWords)
			state[at] = no
			wantInts(t, "MixState with what is no word", impl.MixState(state), impl.ErrRange, nil)
			// How many there are is asked ahead of what they are.
			wantInts(t, "MixState of one more, and no word", impl.MixState(append(state, 1)), impl.ErrForm, nil)
		}
		short := fillWords(stateWords - 1)
		short[0], short[48] = no, no
		wantInts(t, "MixState of one less, and no words", impl.MixState(short), impl.ErrForm, nil)
	}
}

func TestP3PadBytes(t *testing.T) {
	for n := range impl.MaxBytes + 1 {
		data := fill(n)
		want := append(bytes.Clone(data), 1)
		for len(want)%impl.RateBytes != 0 {
			want = append(want, 0)
		}
		want[len(want)-1] ^= 128
		wantBytes(t, "PadBytes", impl.PadBytes(data), impl.OK, want)
	}
}

func TestP3PadBytesEdges(t *testing.T) {
	edges := []struct{ n, length, one, last int }{
		{0, 136, 1, 128}, {134, 136, 1, 128}, {135, 136, 129, 129}, {136, 272, 1, 128}, {137, 272, 1, 128},
		{270, 272, 1, 128}, {271, 272, 129, 129}, {272, 408, 1, 128}, {1087, 1088, 129, 129}, {1088, 1224, 1, 128}, {1200, 1224, 1, 128},
	}
	for _, e := range edges {
		got := impl.PadBytes(fill(e.n))
		if got.Code != impl.OK || len(got.Bytes) != e.length {
			t.Errorf("PadBytes of %d: code %d and %d bytes", e.n, got.Code, len(got.Bytes))
			continue
		}
		if int(got.Bytes[e.n]) != e.one || int(got.Bytes[e.length-1]) != e.last || !bytes.Equal(got.Bytes[:e.n], fill(e.n)) {
			t.Errorf("PadBytes of %d ends with %v", e.n, got.Bytes[e.n:])
		}
	}
	wantBytes(t, "PadBytes of nil", impl.PadBytes(nil), impl.OK, impl.PadBytes([]byte{}).Bytes)
}

func TestP3TooManyBytes(t *testing.T) {
	for _, n := range []int{impl.MaxBytes + 1, impl.MaxBytes + 2, 1223, 1224, 1225, 2 * impl.MaxBytes, 1 << 20} {
		wantBytes(t, "PadBytes of too many", impl.PadBytes(fill(n)), impl.ErrMany, nil)
		wantBytes(t, "KeccakOf too many", impl.KeccakOf(fill(n)), impl.ErrMany, nil)
		wantText(t, "HashText of too many", impl.HashText(fill(n)), impl.ErrMany, "")
	}
}

func TestP3KnownHashes(t *testing.T) {
	known := []struct{ data, hash string }{
		{"", "c5d2460186f7233c927e7db2dcc703c0e500b653ca82273b7bfad8045d85a470"},
		{"abc", "4e03657aea45a94fc7d47ba826c8d667c0d1e6e33a64a036ec44f58fa12d6c45"},
		{"hello", "1c8aff950685c2ed4bc3174f3472287b56d9517b9c948127319a09a7a36deac8"},
		{"The quick brown fox jumps over the lazy dog", "4d741b6f1eb29cb2a9b9911c82f56fa8d73b04959d3d9d222895df6c0b28aa15"},
		{"The quick brown fox jumps over the lazy dog.", "578951e24efd62a3d63a86f7cd19aaa53c898fe287d2552133220370240b572d"},
		{"\x80", "56e81f171bcc55a6ff8345e692c0f86e5b48e01b996cadc001622fb5e363b421"},
		{"\xc0", "1dcc4de8dec75d7aab85b567b6ccd41ad312451b948a7413f0a142fd40d49347"},
	}
	for _, k := range known {
		hash, _ := hex.DecodeString(k.hash)
		wantBytes(t, "KeccakOf", impl.KeccakOf([]byte(k.data)), impl.OK, hash)
		wantText(t, "HashText", impl.HashText([]byte(k.data)), impl.OK, k.hash)
	}
	wantBytes(t, "KeccakOf nil", impl.KeccakOf(nil), impl.OK, impl.KeccakOf([]byte{}).Bytes)
	wantText(t, "HashText of nil", impl.HashText(nil), impl.OK, known[0].hash)
}

// bytesOfState writes each lane with its lowest byte first.
func bytesOfState(state []int64) []byte {
	var data []byte
	for i := 0; i < len(state); i += 2 {
		data = binary.LittleEndian.AppendUint64(data, uint64(state[i])<<32|uint64(state[i+1]))
	}
	return data
}

// spongeOf soaks up padded bytes, and answers 32 of the state behind them; of the program it takes MixState alone.
func spongeOf(t *testing.T, padded []byte) []byte {
	t.Helper()
	state := make([]int64, stateWords)
	for at := 0; at < len(padded); at += 136 {
		for i := range 17 {
			lane := binary.LittleEndian.Uint64(padded[at+8*i:])
			state[2*i] ^= int64(lane >> 32)
			state[2*i+1] ^= int64(lane & 0xffffffff)
		}
		state = mixAgain(t, state, 1)
	}
	return bytesOfState(state)[:32]
}

// paddedWith pads as PadBytes does, but with a first byte that is told: with 6 the sponge is the library's SHA3-256.
func paddedWith(first byte, data []byte) []byte {
	padded := append(bytes.Clone(data), first)
	padded = append(padded, make([]byte, (136-len(padded)%136)%136)...)
	padded[len(padded)-1] ^= 128
	return padded
}

func TestP3MixStateIsKeccakF(t *testing.T) {
	for _, n := range []int{0, 1, 7, 8, 9, 134, 135, 136, 137, 271, 272, 273, 1000, 1200} {
		want := sha3.Sum256(fill(n))
		if got := spongeOf(t, paddedWith(6, fill(n))); !bytes.Equal(got, want[:]) {
			t.Errorf("the sponge of %d bytes: %x, the library's %x", n, got, want)
		}
	}
}

func TestP3HashHangsOnWhatIsPaddedAlone(t *testing.T) {
	seen := map[string]int{}
	for n := range impl.MaxBytes + 1 {
		data := fill(n)
		hash := impl.KeccakOf(data)
		if hash.Code != impl.OK || len(hash.Bytes) != impl.HashBytes {
			t.Fatalf("KeccakOf %d: code %d and %d bytes", n, hash.Code, len(hash.Bytes))
		}
		wantBytes(t, "KeccakOf", hash, impl.OK, spongeOf(t, paddedWith(1, data)))
		wantBytes(t, "KeccakOf, by PadBytes", hash, impl.OK, spongeOf(t, impl.PadBytes(data).Bytes))
		wantText(t, "HashText", impl.HashText(data), impl.OK, hex.EncodeToString(hash.Bytes))
		seen[string(hash.Bytes)]++
	}
	if len(seen) != impl.MaxBytes+1 {
		t.Errorf("%d bytes have %d hashes", impl.MaxBytes+1, len(seen))
	}
}

// Each byte counts, at whichever place, and zeros behind the others do.
func TestP3HashHangsOnEachByte(t *testing.T) {
	for _, n := range []int{1, 135, 136, 137, 272, 1200} {
		seen := map[string]int{impl.HashText(make([]byte, n)).Text: 1}
		for at := range n {
			data := make([]byte, n)
			data[at] = 1
			seen[impl.HashText(data).Text]++
		}
		if len(seen) != n+1 {
			t.Errorf("%d bytes with one changed have %d hashes", n, len(seen))
		}
	}
	zeros := map[string]int{}
	for n := range 300 {
		zeros[impl.HashText(make([]byte, n)).Text]++
	}
	if len(zeros) != 300 {
		t.Errorf("300 counts of zeros have %d hashes", len(zeros))
	}
	// What looks padded already is other bytes than what it was made of.
	wantOther := impl.HashText(impl.PadBytes([]byte("abc")).Bytes).Text
	if wantOther == impl.HashText([]byte("abc")).Text {
		t.Error("bytes and their padded ones have one hash")
	}
}
