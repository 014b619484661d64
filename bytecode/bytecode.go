// Package bytecode writes programs down as bytes and makes programs of bytes (P16).
package bytecode

// mark is what the bytes of all programs begin with.
const mark = "PH1"

// most is the greatest number that an instruction may have.
const most = 999_999_999

// sumSize is how many bytes of a program are its sum.
const sumSize = 4

// The kinds of instructions, by their byte.
const (
	kindEnd byte = iota
	kindSay
	kindSayArgument
	kindSayNumber
	kindEnter
	kindLeave
	kindSayEntered
	kindIfEqual
	kindByCardinal
	kindByOrdinal
	kindByText
	kindJump
)

// sumOf is the sum of bytes. It wraps round: its last 32 bits are all that counts.
func sumOf(b []byte) uint32 {
	sum := uint32(2166136261)
	for _, c := range b {
		sum ^= uint32(c)
		sum *= 16777619
	}
	return sum
}

// appendTwo writes a number of two bytes behind others.
func appendTwo(b []byte, v int) []byte { return append(b, byte(v>>8), byte(v)) }

// appendFour writes a number of four bytes behind others.
func appendFour(b []byte, v uint32) []byte {
	return append(b, byte(v>>24), byte(v>>16), byte(v>>8), byte(v))
}

// valueOf is the number that bytes are, at most four.
func valueOf(b []byte) uint32 {
	var v uint32
	for _, c := range b {
		v = v<<8 | uint32(c)
	}
	return v
}
