package hyphen

import (
	"slices"
	"strconv"
	"strings"
	"unicode/utf8"
)

// dot stands for the start and for the end of a word.
const dot = '.'

// maxLetters is the greatest number of letters of a pattern, without its dots.
const maxLetters = 16

// Parse returns the letters of the pattern s, dots included, the digit before each of them and the digit at the end, and whether s is a pattern.
func Parse(s string) ([]rune, []int, bool) {
	if !utf8.ValidString(s) {
		return nil, nil, false
	}
	letters, digits, ok := split(s)
	if !ok || !hasForm(letters) || !slices.ContainsFunc(digits, func(digit int) bool { return digit > 0 }) {
		return nil, nil, false
	}
	return letters, digits, true
}

// Print returns the pattern that Parse reads as these letters and digits, or the empty text if there is none.
func Print(letters []rune, digits []int) string {
	s := written(letters, digits)
	// Digits too few or too many, and what is no letter or no digit, are read as something else than they are.
	readLetters, readDigits, ok := Parse(s)
	if !ok || !slices.Equal(readLetters, letters) || !slices.Equal(readDigits, digits) {
		return ""
	}
	return s
}

// split returns the code points of s that are no digits, and the digit before each of them and at the end. It reports false if two digits are side by side.
func split(s string) ([]rune, []int, bool) {
	var letters []rune
	digits := []int{0}
	behindDigit := false
	for _, r := range s {
		isDigit := r >= '0' && r <= '9'
		if isDigit && behindDigit {
			return nil, nil, false
		}
		if isDigit {
			digits[len(letters)] = int(r - '0')
		} else {
			letters = append(letters, r)
			digits = append(digits, 0)
		}
		behindDigit = isDigit
	}
	return letters, digits, true
}

// hasForm tells whether the letters are as many as a pattern may have, and have dots at most at the ends.
func hasForm(letters []rune) bool {
	if len(letters) > 0 && letters[0] == dot {
		letters = letters[1:]
	}
	if len(letters) > 0 && letters[len(letters)-1] == dot {
		letters = letters[:len(letters)-1]
	}
	return len(letters) > 0 && len(letters) <= maxLetters && !slices.Contains(letters, dot)
}

// written returns the letters, each behind the digit that goes with it, and the digit at the end, but no digit that is 0.
func written(letters []rune, digits []int) string {
	var s strings.Builder
	for i, digit := range digits {
		if digit != 0 {
			s.WriteString(strconv.Itoa(digit))
		}
		if i < len(letters) {
			s.WriteRune(letters[i])
		}
	}
	return s.String()
}
