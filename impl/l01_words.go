package impl

import (
	"strconv"
	"strings"
)

const (
	MaxText   = 20000
	MaxNumber = 1000000000
	MaxWords  = 600
	MaxParts  = 10
)

const (
	// Seven bits of a number stand in one byte; the eighth says that more come.
	varUnit = 128

	// Each base takes its figures from the beginning of this text.
	allFigures = "0123456789abcdef"
)

func VarText(n int) (string, bool) {
	if n < 0 || n > MaxNumber {
		return "", false
	}
	var out []byte
	for n >= varUnit {
		out = append(out, byte(n%varUnit+varUnit))
		n /= varUnit
	}
	return string(append(out, byte(n))), true
}

func ReadVar(text string, at int) (int, int, bool) {
	if at < 0 || at > len(text) {
		return 0, 0, false
	}
	number, unit := 0, 1
	// No number within the limit has a byte for a unit above it; to stop there
	// also keeps the unit from wrapping round.
	for i := at; i < len(text) && unit <= MaxNumber; i++ {
		b := int(text[i])
		number += b % varUnit * unit
		unit *= varUnit
		if b >= varUnit {
			continue
		}
		// A last byte 0 adds nothing, so a shorter form would do.
		longer := b == 0 && i > at
		if longer || number > MaxNumber {
			return 0, 0, false
		}
		return number, i + 1, true
	}
	return 0, 0, false
}

func ShortText(s string) (string, bool) {
	if len(s) > MaxText {
		return "", false
	}
	size, ok := VarText(len(s))
	return size + s, ok
}

func ReadShort(text string, at int) (string, int, bool) {
	size, from, ok := ReadVar(text, at)
	if !ok || size > MaxText || size > len(text)-from {
		return "", 0, false
	}
	// A piece cut from text would share its memory.
	return strings.Clone(text[from : from+size]), from + size, true
}

func Hex(text string) (string, bool) {
	if len(text) > MaxText {
		return "", false
	}
	out := make([]byte, 0, 2*len(text))
	for i := range len(text) {
		out = append(out, allFigures[text[i]/16], allFigures[text[i]%16])
	}
	return string(out), true
}

func Unhex(text string) (string, bool) {
	if len(text) > 2*MaxText || len(text)%2 != 0 {
		return "", false
	}
	values, ok := figureValues(text, 16)
	if !ok {
		return "", false
	}
	out := make([]byte, len(values)/2)
	for i := range out {
		out[i] = byte(values[2*i]*16 + values[2*i+1])
	}
	return string(out), true
}

func Decimal(n int) string {
	return strconv.Itoa(n)
}

func ReadDecimal(text string) (int, bool) {
	// So few figures can't wrap round below.
	if len(text) > len(Decimal(MaxNumber)) {
		return 0, false
	}
	values, ok := figureValues(text, 10)
	if !ok {
		return 0, false
	}
	number := 0
	for _, value := range values {
		number = number*10 + value
	}
	// Writing it again tells needless noughts, and a text without figures.
	if number > MaxNumber || Decimal(number) != text {
		return 0, false
	}
	return number, true
}

// figureValues refuses capitals too: a number has one writing alone.
func figureValues(text string, base int) ([]int, bool) {
	values := make([]int, 0, len(text))
figures:
	for i := range len(text) {
		for value := range base {
			if allFigures[value] == text[i] {
				values = append(values, value)
				continue figures
			}
		}
		return nil, false
	}
	return values, true
}

func PartsOf(line string) ([]string, bool) {
	if len(line) > MaxWords || !isPlainLine(line) {
		return nil, false
	}
	// In a plain line the blank is the only space that Fields knows; the parts
	// are cut from a copy, since a piece of line would share its memory.
	parts := strings.Fields(strings.Clone(line))
	if len(parts) > MaxParts {
		return nil, false
	}
	return parts, true
}

func isPlainLine(line string) bool {
	for i := range len(line) {
		if line[i] < 32 || line[i] > 126 {
			return false
		}
	}
	return true
}
