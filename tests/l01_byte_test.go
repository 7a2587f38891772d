package tests

import (
	"bytes"
	"encoding/hex"
	"math"
	"math/big"
	"strconv"
	"strings"
	"testing"

	"loop.example/g00383/impl"
)

const topShort = int64(1) << 50

// fill gives n bytes in which all values come, and neighbours differ.
func fill(n int) []byte {
	data := make([]byte, n)
	for i := range data {
		data[i] = byte(i*167 + 13)
	}
	return data
}

func wantText(t *testing.T, call string, got impl.TextResult, code int64, text string) {
	t.Helper()
	if got.Code != code || got.Text != text {
		t.Errorf("%s: %+v, want code %d and %q", call, got, code, text)
	}
}

func wantBytes(t *testing.T, call string, got impl.BytesResult, code int64, data []byte) {
	t.Helper()
	if got.Code != code || !bytes.Equal(got.Bytes, data) {
		t.Errorf("%s: %+v, want code %d and %v", call, got, code, data)
	}
}

func wantInt(t *testing.T, call string, got impl.IntResult, code int64, value int64) {
	t.Helper()
	if got.Code != code || got.Value != value {
		t.Errorf("%s: %+v, want code %d and %d", call, got, code, value)
	}
}

func TestP2Constants(t *testing.T) {
	codes := []int64{
		impl.OK, impl.ErrForm, impl.ErrMany, impl.ErrRange, impl.ErrNone, impl.ErrText,
		impl.ErrTaken, impl.ErrSign, impl.ErrRule, impl.ErrState, impl.ErrFull,
	}
	for want, code := range codes {
		if code != int64(want) {
			t.Errorf("the code at place %d is %d", want, code)
		}
	}
	if impl.MaxBytes != 1200 {
		t.Errorf("MaxBytes is %d", impl.MaxBytes)
	}
}

func TestP2HexOf(t *testing.T) {
	wantText(t, "HexOf nil", impl.HexOf(nil), impl.OK, "")
	wantText(t, "HexOf nothing", impl.HexOf([]byte{}), impl.OK, "")
	wantText(t, "HexOf some", impl.HexOf([]byte{0, 1, 15, 16, 171, 255}), impl.OK, "00010f10abff")
	for b := range 256 {
		one := []byte{byte(b)}
		wantText(t, "HexOf one byte", impl.HexOf(one), impl.OK, hex.EncodeToString(one))
	}
	for _, n := range []int{2, 31, impl.MaxBytes - 1, impl.MaxBytes} {
		wantText(t, "HexOf many", impl.HexOf(fill(n)), impl.OK, hex.EncodeToString(fill(n)))
	}
	for _, n := range []int{impl.MaxBytes + 1, impl.MaxBytes + 2, 3 * impl.MaxBytes} {
		wantText(t, "HexOf too many", impl.HexOf(fill(n)), impl.ErrMany, "")
	}
}

// readsAs tells by the library what a text of at most twice MaxBytes signs has to answer.
func readsAs(text string) (int64, []byte) {
	data, err := hex.DecodeString(text)
	if err != nil || hex.EncodeToString(data) != text {
		return impl.ErrText, nil
	}
	return impl.OK, data
}

func TestP2BytesOfHexShortTexts(t *testing.T) {
	wantBytes(t, "BytesOfHex of nothing", impl.BytesOfHex(""), impl.OK, nil)
	for high := range 256 {
		text := string([]byte{byte(high)})
		wantBytes(t, "BytesOfHex of one sign", impl.BytesOfHex(text), impl.ErrText, nil)
		for low := range 256 {
			text := string([]byte{byte(high), byte(low)})
			code, data := readsAs(text)
			wantBytes(t, "BytesOfHex of "+strconv.Quote(text), impl.BytesOfHex(text), code, data)
			if code == impl.OK {
				wantText(t, "HexOf what was read", impl.HexOf(data), impl.OK, text)
			}
		}
	}
}

func TestP2BytesOfHexWrongTexts(t *testing.T) {
	wrong := []string{
		"0", "000", "00ab1", "0g", "g0", "AB", "aB", "Ab", "00aB", "00Ab", "0x", "0x00", " 00", "00 ", "0 0",
		"00\n", "00\n0", "-1", "+1", "0\x00", "\x00\x00", "\xff\xff", "é", "０", "00é", "/0", ":0", "`0", "@0", "0G",
	}
	for _, text := range wrong {
		wantBytes(t, "BytesOfHex of "+strconv.Quote(text), impl.BytesOfHex(text), impl.ErrText, nil)
	}
	good := strings.Repeat("5e", 40)
	for at := range len(good) {
		for _, sign := range []string{"A", "F", "g", "`", "/", ":", "\x00", "\xb5"} {
			text := good[:at] + sign + good[at+1:]
			wantBytes(t, "BytesOfHex of "+strconv.Quote(text), impl.BytesOfHex(text), impl.ErrText, nil)
		}
	}
}

func TestP2BytesOfHexLongTexts(t *testing.T) {
	const most = 2 * impl.MaxBytes
	full := hex.EncodeToString(fill(impl.MaxBytes))
	wantBytes(t, "BytesOfHex at the most", impl.BytesOfHex(full), impl.OK, fill(impl.MaxBytes))
	wantBytes(t, "BytesOfHex one sign less", impl.BytesOfHex(full[1:]), impl.ErrText, nil)
	wantBytes(t, "BytesOfHex two signs less", impl.BytesOfHex(full[2:]), impl.OK, fill(impl.MaxBytes)[1:])
	wantBytes(t, "BytesOfHex wrong at its end", impl.BytesOfHex(full[:most-1]+"G"), impl.ErrText, nil)
	// Too many is asked ahead of what cannot be read.
	for _, more := range []string{"0", "G", "00", "GG", "000", full} {
		wantBytes(t, "BytesOfHex of too many signs", impl.BytesOfHex(full+more), impl.ErrMany, nil)
	}
	wantBytes(t, "BytesOfHex of too many wrong ones", impl.BytesOfHex(strings.Repeat("x", most+1)), impl.ErrMany, nil)
	wantBytes(t, "BytesOfHex of wrong ones", impl.BytesOfHex(strings.Repeat("x", most)), impl.ErrText, nil)
	// Signs are counted as bytes: MaxBytes letters of two bytes are at the bound, one more is behind it.
	wantBytes(t, "BytesOfHex of wide letters", impl.BytesOfHex(strings.Repeat("é", impl.MaxBytes)), impl.ErrText, nil)
	wantBytes(t, "BytesOfHex of too many wide letters", impl.BytesOfHex(strings.Repeat("é", impl.MaxBytes+1)), impl.ErrMany, nil)
}

func TestP2BytesAreReadBack(t *testing.T) {
	for n := range impl.MaxBytes + 1 {
		data := fill(n)
		text := impl.HexOf(data)
		wantBytes(t, "BytesOfHex of HexOf", impl.BytesOfHex(text.Text), impl.OK, data)
	}
	wantBytes(t, "zeros ahead and behind", impl.BytesOfHex(impl.HexOf([]byte{0, 0, 7, 0}).Text), impl.OK, []byte{0, 0, 7, 0})
}

func TestP2SameBytes(t *testing.T) {
	if !impl.SameBytes(nil, nil) || !impl.SameBytes(nil, []byte{}) || !impl.SameBytes([]byte{}, nil) || !impl.SameBytes([]byte{}, []byte{}) {
		t.Error("nil and empty are not the same")
	}
	if impl.SameBytes(nil, []byte{0}) || impl.SameBytes([]byte{0}, nil) || impl.SameBytes([]byte{0}, []byte{0, 0}) || impl.SameBytes([]byte{0, 0}, []byte{0}) {
		t.Error("one that begins the other is the same")
	}
	for _, n := range []int{1, 2, 33, impl.MaxBytes, impl.MaxBytes + 1} {
		if !impl.SameBytes(fill(n), fill(n)) {
			t.Errorf("%d bytes are not the same", n)
		}
		for _, at := range []int{0, n / 2, n - 1} {
			other := fill(n)
			other[at] ^= 128
			if impl.SameBytes(fill(n), other) || impl.SameBytes(other, fill(n)) {
				t.Errorf("%d bytes are the same, but for the one at %d", n, at)
			}
		}
	}
}

func TestP2IsAhead(t *testing.T) {
	// Each one is ahead of all behind it.
	rising := [][]byte{
		{}, {0}, {0, 0}, {0, 0, 255}, {0, 1}, {0, 255}, {1}, {1, 0}, {1, 0, 0}, {1, 9}, {2}, {2, 0},
		{127}, {127, 255}, {128}, {128, 0}, {255}, {255, 0}, {255, 255}, {255, 255, 0},
	}
	for i, a := range rising {
		for j, b := range rising {
			if got := impl.IsAhead(a, b); got != (i < j) {
				t.Errorf("IsAhead of %v and %v: %v", a, b, got)
			}
			if got := impl.SameBytes(a, b); got != (i == j) {
				t.Errorf("SameBytes of %v and %v: %v", a, b, got)
			}
		}
	}
	if impl.IsAhead(nil, nil) || impl.IsAhead(nil, []byte{}) || impl.IsAhead([]byte{}, nil) || !impl.IsAhead(nil, []byte{0}) || impl.IsAhead([]byte{0}, nil) {
		t.Error("nil is not as empty")
	}
	for _, n := range []int{impl.MaxBytes, impl.MaxBytes + 1} {
		a, b := fill(n), fill(n)
		if impl.IsAhead(a, b) || impl.IsAhead(a, a) || !impl.IsAhead(a[:n-1], b) || impl.IsAhead(a, b[:n-1]) {
			t.Errorf("%d bytes beside themselves", n)
		}
		a[n-1], b[n-1] = 127, 128
		if !impl.IsAhead(a, b) || impl.IsAhead(b, a) {
			t.Errorf("%d bytes that differ in the last one", n)
		}
	}
}

// shortNumbers are numbers of 0 to 2^50 around each place where one more bit or byte begins.
func shortNumbers() []int64 {
	list := []int64{0, 1, 2, 9, 10, 127, 128, 254, 255, 256, 257, 258, 511, 512, 65535, 65536, 1234567890123}
	for bit := range 51 {
		for _, by := range []int64{-1, 0, 1} {
			if n := int64(1)<<bit + by; n >= 0 && n <= topShort {
				list = append(list, n)
			}
		}
	}
	return list
}

func TestP2ShortBytes(t *testing.T) {
	known := []struct {
		n    int64
		data []byte
	}{
		{0, nil}, {1, []byte{1}}, {255, []byte{255}}, {256, []byte{1, 0}}, {258, []byte{1, 2}}, {65536, []byte{1, 0, 0}},
		{topShort - 1, []byte{3, 255, 255, 255, 255, 255, 255}}, {topShort, []byte{4, 0, 0, 0, 0, 0, 0}},
	}
	for _, k := range known {
		wantBytes(t, "ShortBytes", impl.ShortBytes(k.n), impl.OK, k.data)
		wantInt(t, "BytesShort", impl.BytesShort(k.data), impl.OK, k.n)
	}
	for _, n := range shortNumbers() {
		wantBytes(t, "ShortBytes", impl.ShortBytes(n), impl.OK, big.NewInt(n).Bytes())
	}
	for _, n := range []int64{topShort + 1, topShort + 256, 2 * topShort, 1 << 56, math.MaxInt64, -1, -255, -256, -topShort, math.MinInt64 + 1, math.MinInt64} {
		wantBytes(t, "ShortBytes out of its bounds", impl.ShortBytes(n), impl.ErrRange, nil)
	}
}

func TestP2NumbersAreReadBack(t *testing.T) {
	wantInt(t, "BytesShort of nil", impl.BytesShort(nil), impl.OK, 0)
	wantInt(t, "BytesShort of nothing", impl.BytesShort([]byte{}), impl.OK, 0)
	for _, n := range shortNumbers() {
		wantInt(t, "BytesShort of ShortBytes", impl.BytesShort(impl.ShortBytes(n).Bytes), impl.OK, n)
	}
	for a := range 256 {
		for b := range 256 {
			data := []byte{byte(a), byte(b)}
			got := impl.BytesShort(data)
			if a == 0 {
				wantInt(t, "BytesShort with a zero ahead", got, impl.ErrText, 0)
				continue
			}
			wantInt(t, "BytesShort of two", got, impl.OK, int64(256*a+b))
			wantBytes(t, "ShortBytes of what was read", impl.ShortBytes(got.Value), impl.OK, data)
		}
	}
}

func TestP2BytesShortWrong(t *testing.T) {
	wrong := [][]byte{
		{0}, {0, 0}, {0, 1}, {0, 255, 255}, {0, 4, 0, 0, 0, 0, 0, 0}, {0, 1, 0, 0, 0, 0, 0}, make([]byte, 7), make([]byte, 8),
		{4, 0, 0, 0, 0, 0, 1}, {4, 0, 0, 0, 0, 1, 0}, {5, 0, 0, 0, 0, 0, 0}, {128, 0, 0, 0, 0, 0, 0}, {255, 255, 255, 255, 255, 255, 255},
		{1, 0, 0, 0, 0, 0, 0, 0}, {128, 0, 0, 0, 0, 0, 0, 0}, {255, 255, 255, 255, 255, 255, 255, 255},
		// Of these the lowest 64 bits alone would be a small number.
		{1, 0, 0, 0, 0, 0, 0, 0, 0}, {1, 0, 0, 0, 0, 0, 0, 0, 5}, append([]byte{1}, make([]byte, 16)...),
	}
	for _, data := range wrong {
		wantInt(t, "BytesShort", impl.BytesShort(data), impl.ErrText, 0)
	}
	for _, n := range []int{8, 9, 64, impl.MaxBytes, impl.MaxBytes + 1, 2 * impl.MaxBytes} {
		many := bytes.Repeat([]byte{1}, n)
		wantInt(t, "BytesShort of many", impl.BytesShort(many), impl.ErrText, 0)
		wantInt(t, "BytesShort of many zeros", impl.BytesShort(make([]byte, n)), impl.ErrText, 0)
		last := make([]byte, n)
		last[n-1] = 7
		wantInt(t, "BytesShort of a far number", impl.BytesShort(last), impl.ErrText, 0)
	}
}
