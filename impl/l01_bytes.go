package impl

import "bytes"

const MaxNum = 2147483647
const MaxText = 20

// maxNumBytes is how many bytes MaxNum needs at seven bits a byte.
const maxNumBytes = 5

const digitBits = 7
const moreFlag = 1 << digitBits

// What a byte of a number means for those behind it.
const (
	digitMore = iota
	digitLast
	digitNeedless
)

// PutNum puts n behind a copy of b; out of range, n leaves b as it is.
func PutNum(b []byte, n int) []byte {
	digits, used := numDigits(n)
	return joined(b, digits[:used])
}

// GetNum reads the number at a place of b, and tells the place behind it; 0 and -1 if there is none.
func GetNum(b []byte, at int) (int, int) {
	if at < 0 || at >= len(b) {
		return 0, -1
	}
	n := 0
	for i := range min(maxNumBytes, len(b)-at) {
		digit := b[at+i]
		n += int(digit%moreFlag) << (digitBits * i)
		switch digitRole(digit, i) {
		case digitNeedless:
			return 0, -1
		case digitLast:
			if n > MaxNum {
				return 0, -1
			}
			return n, at + i + 1
		}
	}
	return 0, -1
}

// PutText puts t, with its length ahead, behind a copy of b; too long, t leaves b as it is.
func PutText(b []byte, t []byte) []byte {
	if len(t) > MaxText {
		return joined(b, nil)
	}
	return joined(PutNum(b, len(t)), t)
}

// GetText reads the text at a place of b, and tells the place behind it; nothing and -1 if there is none.
func GetText(b []byte, at int) ([]byte, int) {
	size, from := GetNum(b, at)
	if from < 0 || size > MaxText || size > len(b)-from {
		return nil, -1
	}
	return joined(nil, b[from:from+size]), from + size
}

// NumLen tells how many bytes PutNum makes of n.
func NumLen(n int) int {
	_, used := numDigits(n)
	return used
}

// HasPrefix tells whether b begins with p.
func HasPrefix(b []byte, p []byte) bool {
	return bytes.HasPrefix(b, p)
}

// Common tells how many bytes a and b begin with alike.
func Common(a []byte, b []byte) int {
	n := 0
	for n < len(a) && n < len(b) && a[n] == b[n] {
		n++
	}
	return n
}

// numDigits gives the bytes of n and how many of them count: none if n is out of range.
func numDigits(n int) ([maxNumBytes]byte, int) {
	var digits [maxNumBytes]byte
	if n < 0 || n > MaxNum {
		return digits, 0
	}
	used := 0
	for n >= moreFlag {
		digits[used] = byte(n%moreFlag + moreFlag)
		n /= moreFlag
		used++
	}
	digits[used] = byte(n)
	return digits, used + 1
}

// digitRole keeps each number to one way alone: a last 0 behind others could have been left away.
func digitRole(digit byte, place int) int {
	switch {
	case digit >= moreFlag:
		return digitMore
	case digit == 0 && place > 0:
		return digitNeedless
	}
	return digitLast
}

// joined is always new memory, since append would write into the room behind a.
func joined(a []byte, b []byte) []byte {
	out := make([]byte, 0, len(a)+len(b))
	out = append(out, a...)
	return append(out, b...)
}
