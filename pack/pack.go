// Package pack is layer 1: numbers, strings and rows of strings as bytes, and back again. See shared/doc/01-pack.md.
package pack

import (
	"math/bits"
	"strings"

	"palinode/api"
)

const (
	maxBytes = 7    // of a number, behind the byte that counts them
	maxRow   = 1000 // strings of a row
)

// Num is n as bytes.
func Num(n int) (string, error) {
	if n < 0 || n > api.MaxNumber {
		return "", api.ErrArg
	}
	var out strings.Builder
	writeNum(&out, n)
	return out.String(), nil
}

// Text is s as bytes.
func Text(s string) (string, error) {
	if len(s) > api.MaxText {
		return "", api.ErrLong
	}
	var out strings.Builder
	out.Grow(textSize(s))
	writeText(&out, s)
	return out.String(), nil
}

// ReadNum is the number that b begins with. The rest is a piece of b, not a copy: else reading number by number would take quadratic time.
func ReadNum(b string) (n int, rest string, err error) {
	if b == "" {
		return 0, "", api.ErrShort
	}
	size, rest := int(b[0]), b[1:]
	if size > maxBytes {
		return 0, "", api.ErrForm
	}
	if len(rest) < size {
		return 0, "", api.ErrShort
	}
	// A leading zero would give a number a second encoding.
	if size > 0 && rest[0] == 0 {
		return 0, "", api.ErrForm
	}
	for i := range size {
		n = n<<8 | int(rest[i])
	}
	if n > api.MaxNumber {
		return 0, "", api.ErrForm
	}
	return n, rest[size:], nil
}

// ReadText is the string that b begins with. The rest is a piece of b, as in ReadNum.
func ReadText(b string) (s, rest string, err error) {
	size, rest, err := ReadNum(b)
	if err != nil {
		return "", "", err
	}
	if size > api.MaxText {
		return "", "", api.ErrLong
	}
	if len(rest) < size {
		return "", "", api.ErrShort
	}
	// A copy, so that who keeps a short string does not keep all of b.
	return strings.Clone(rest[:size]), rest[size:], nil
}

// Row is a list of strings as bytes.
func Row(texts []string) (string, error) {
	if len(texts) > maxRow {
		return "", api.ErrLong
	}
	// The size comes first, so that nothing is built that is too long. A single string that is too long makes the row so, too.
	size := numSize(len(texts))
	for _, s := range texts {
		size += textSize(s)
	}
	if size > api.MaxText {
		return "", api.ErrLong
	}
	var out strings.Builder
	out.Grow(size)
	writeNum(&out, len(texts))
	for _, s := range texts {
		writeText(&out, s)
	}
	return out.String(), nil
}

// ReadRow is the list of strings that b is, from its first byte to its last.
func ReadRow(b string) ([]string, error) {
	if len(b) > api.MaxText {
		return nil, api.ErrLong
	}
	many, rest, err := ReadNum(b)
	if err != nil {
		return nil, err
	}
	if many > maxRow {
		return nil, api.ErrLong
	}
	texts := make([]string, many)
	for i := range texts {
		texts[i], rest, err = ReadText(rest)
		if err != nil {
			return nil, err
		}
	}
	if rest != "" {
		return nil, api.ErrForm
	}
	return texts, nil
}

// numSize is how many bytes writeNum writes for n.
func numSize(n int) int { return 1 + numBytes(n) }

// textSize is how many bytes writeText writes for s.
func textSize(s string) int { return numSize(len(s)) + len(s) }

// numBytes is how many bytes n needs, without leading zeros.
func numBytes(n int) int { return (bits.Len(uint(n)) + 7) / 8 }

// writeNum writes n, which is from 0 to MaxNumber.
func writeNum(out *strings.Builder, n int) {
	size := numBytes(n)
	out.WriteByte(byte(size))
	switch size {
	case 7:
		out.WriteByte(byte(n >> 48))
		fallthrough
	case 6:
		out.WriteByte(byte(n >> 40))
		fallthrough
	case 5:
		out.WriteByte(byte(n >> 32))
		fallthrough
	case 4:
		out.WriteByte(byte(n >> 24))
		fallthrough
	case 3:
		out.WriteByte(byte(n >> 16))
		fallthrough
	case 2:
		out.WriteByte(byte(n >> 8))
		fallthrough
	case 1:
		out.WriteByte(byte(n))
	}
}

// writeText writes s, which has at most MaxText bytes.
func writeText(out *strings.Builder, s string) {
	writeNum(out, len(s))
	out.WriteString(s)
}
