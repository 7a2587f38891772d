package impl

import "bytes"

const OK = 0
const ErrForm = 1
const ErrMany = 2
const ErrRange = 3
const ErrNone = 4
const ErrText = 5
const ErrTaken = 6
const ErrSign = 7
const ErrRule = 8
const ErrState = 9
const ErrFull = 10
const MaxBytes = 1200

type IntResult struct {
	Code  int64
	Value int64
}
type IntsResult struct {
	Code int64
	List []int64
}
type BytesResult struct {
	Code  int64
	Bytes []byte
}
type TextResult struct {
	Code int64
	Text string
}

// hexDigits holds the digit of each half byte at that half byte's number.
const hexDigits = "0123456789abcdef"

// noDigit stands for a sign that is none of hexDigits.
const noDigit = -1

const maxShort = 1 << 50

// shortRoom: no number up to maxShort has more bytes, so that what is read of so few cannot overflow.
const shortRoom = 7

func HexOf(data []byte) TextResult {
	if len(data) > MaxBytes {
		return TextResult{Code: ErrMany}
	}
	signs := make([]byte, 0, 2*len(data))
	for _, b := range data {
		signs = append(signs, hexDigits[b>>4], hexDigits[b&15])
	}
	return TextResult{Code: OK, Text: string(signs)}
}

// digitValue takes small letters alone: a text with capitals is the HexOf no bytes.
func digitValue(sign byte) int64 {
	switch {
	case '0' <= sign && sign <= '9':
		return int64(sign - '0')
	case 'a' <= sign && sign <= 'f':
		return int64(sign-'a') + 10
	}
	return noDigit
}

func BytesOfHex(text string) BytesResult {
	if len(text) > 2*MaxBytes {
		return BytesResult{Code: ErrMany}
	}
	data := make([]byte, 0, len(text)/2)
	at, high, low := 0, int64(0), int64(0)

highDigit:
	// Between two pairs alone a text may end.
	if at == len(text) {
		return BytesResult{Code: OK, Bytes: data}
	}
	high = digitValue(text[at])
	at++
	if high == noDigit {
		goto unreadable
	}
	goto lowDigit

lowDigit:
	if at == len(text) {
		goto unreadable
	}
	low = digitValue(text[at])
	at++
	if low == noDigit {
		goto unreadable
	}
	data = append(data, byte(16*high+low))
	goto highDigit

unreadable:
	return BytesResult{Code: ErrText}
}

func SameBytes(a []byte, b []byte) bool {
	return bytes.Equal(a, b)
}

func IsAhead(a []byte, b []byte) bool {
	return bytes.Compare(a, b) < 0
}

func ShortBytes(n int64) BytesResult {
	if n < 0 || n > maxShort {
		return BytesResult{Code: ErrRange}
	}
	var room [shortRoom]byte
	first := shortRoom
	for rest := n; rest > 0; rest /= 256 {
		first--
		room[first] = byte(rest % 256)
	}
	short := make([]byte, shortRoom-first)
	copy(short, room[first:])
	return BytesResult{Code: OK, Bytes: short}
}

func BytesShort(data []byte) IntResult {
	if len(data) > shortRoom || len(data) > 0 && data[0] == 0 {
		return IntResult{Code: ErrText}
	}
	value := int64(0)
	for _, b := range data {
		value = 256*value + int64(b)
	}
	if value > maxShort {
		return IntResult{Code: ErrText}
	}
	return IntResult{Code: OK, Value: value}
}
