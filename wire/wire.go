// Package wire is layer 1: numbers, texts and lists of texts as bytes, and
// back. Shards, sums and frames are taken over these bytes, so that each thing
// has one spelling only: what is read is written again as it stood.
package wire

const (
	numBytes = 4
	maxNum   = 1<<32 - 1
)

// Num is the number's bytes, the highest first; nothing of a number that four
// bytes can't hold, so that no caller mistakes a cut-off one for it.
func Num(n int) []byte {
	if n < 0 || n > maxNum {
		return nil
	}
	return []byte{byte(n >> 24), byte(n >> 16), byte(n >> 8), byte(n)}
}

// Text is the number of the text's bytes, and these.
func Text(s string) []byte {
	return append(Num(len(s)), s...)
}

// Texts is the number of the texts, and each.
func Texts(l []string) []byte {
	b := Num(len(l))
	for _, s := range l {
		b = append(b, Text(s)...)
	}
	return b
}

// CutNum cuts a number off the beginning.
func CutNum(b []byte) (int, []byte, bool) {
	return own(splitNum(b))
}

// CutText cuts a text off the beginning.
func CutText(b []byte) (string, []byte, bool) {
	return own(splitText(b))
}

// CutTexts cuts a list of texts off the beginning.
func CutTexts(b []byte) ([]string, []byte, bool) {
	return own(splitTexts(b))
}

// own gives the rest memory of its own. It stands apart from the splitting, as
// a list whose every text copied all that is left would take quadratic time.
func own[T any](v T, rest []byte, ok bool) (T, []byte, bool) {
	return v, append([]byte(nil), rest...), ok
}

func splitNum(b []byte) (int, []byte, bool) {
	if len(b) < numBytes {
		return 0, nil, false
	}
	n := int(b[0])<<24 | int(b[1])<<16 | int(b[2])<<8 | int(b[3])
	return n, b[numBytes:], true
}

func splitText(b []byte) (string, []byte, bool) {
	n, rest, ok := splitNum(b)
	if !ok || n > len(rest) {
		return "", nil, false
	}
	return string(rest[:n]), rest[n:], true
}

func splitTexts(b []byte) ([]string, []byte, bool) {
	n, rest, ok := splitNum(b)
	if !ok {
		return nil, nil, false
	}
	// The number is a stranger's: room is made as texts come, not ahead of them.
	var l []string
	for range n {
		var s string
		if s, rest, ok = splitText(rest); !ok {
			return nil, nil, false
		}
		l = append(l, s)
	}
	return l, rest, true
}
