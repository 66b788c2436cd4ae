package book

import (
	"iter"
	"strconv"

	"foreshore/api"
)

// The numbers of a record.
const (
	length = iota
	check
)

// widths has how many digits each number of a record has.
var widths = [...]int{length: 2, check: 4}

const (
	between = ';'
	end     = '\n'
	divisor = 9967 // of a check
)

// digits are those of a check.
type digits [4]byte

// tail is what a record has after its line.
type tail struct {
	between byte
	check   digits
	end     byte
}

// piece is what is a record if its tail is that of its line.
type piece struct {
	line string
	tail tail
}

// file returns the records of all lines.
func file(lines []string) []byte {
	var records [][]byte
	for index, line := range lines {
		p := piece{line, tailOf(line, index)}
		records = append(records, p.record())
	}
	return together(records...)
}

// record returns the bytes of the piece.
func (p piece) record() []byte {
	head := together(written(length, len(p.line)), []byte{between})
	return together(head, []byte(p.line), []byte{p.tail.between}, p.tail.check[:], []byte{p.tail.end})
}

// tailOf returns the tail of the line with the index.
func tailOf(line string, index int) tail {
	return tail{between, digits(written(check, checkOf(line, index))), end}
}

// checkOf returns the check of the line with the index.
func checkOf(line string, index int) int {
	sum := 37 * (index + 1)
	for k := range len(line) {
		sum += (2*k + 1) * int(line[k])
	}
	return sum % divisor
}

// written returns the digits of a number of a record.
func written(number, value int) []byte {
	b := make([]byte, widths[number])
	for i := range b {
		b[len(b)-1-i] = byte('0' + value%10)
		value /= 10
	}
	return b
}

// together returns the parts, one after the other.
func together(parts ...[]byte) []byte {
	size := 0
	for _, part := range parts {
		size += len(part)
	}
	b := make([]byte, size)
	at := 0
	for _, part := range parts {
		at += copy(b[at:], part)
	}
	return b
}

// pieces yields, with their indexes, the pieces that follow each other from the first byte
// on.
func pieces(b []byte) iter.Seq2[int, piece] {
	return func(yield func(int, piece) bool) {
		rest := b
		for index := range api.MaxBookSession {
			p, ok := firstPiece(rest)
			if !ok || !yield(index, p) {
				return
			}
			rest = rest[len(p.record()):]
		}
	}
}

// firstPiece returns the piece with which the bytes begin, if there is one.
func firstPiece(b []byte) (p piece, ok bool) {
	line := widths[length] + 1
	if len(b) < line || !all(b[:line-1], isDigit) || b[line-1] != between {
		return piece{}, false
	}
	many, _ := strconv.Atoi(string(b[:line-1]))
	after := line + many
	last := after + 1 + widths[check]
	if many > api.MaxBookLine || len(b) <= last {
		return piece{}, false
	}
	p.line = string(b[line:after])
	p.tail = tail{b[after], digits(b[after+1 : last]), b[last]}
	return p, true
}
