package graph

import (
	"strconv"
	"strings"
)

// pair of numbers, as they stand in a text: links and prefixes are told alike,
// but for the mark between the two.
type pair [2]int

// maxNumber is far above what may be told: a number that is written well, and
// is too great, is to be told from a text that is none.
const maxNumber = 100000

const maxDigits = 6

const comma = ","

func showPairs(l []pair, mark string) string {
	var parts []string
	for _, p := range l {
		parts = append(parts, strconv.Itoa(p[0])+mark+strconv.Itoa(p[1]))
	}
	return strings.Join(parts, comma)
}

// readPairs takes the texts that showPairs makes, and no others.
func readPairs(s, mark string) ([]pair, bool) {
	if s == "" {
		return nil, true
	}
	var l []pair
	for more := true; more; {
		var part string
		part, s, more = strings.Cut(s, comma)
		p, ok := readPair(part, mark)
		if !ok {
			return nil, false
		}
		l = append(l, p)
	}
	return l, true
}

func readPair(s, mark string) (pair, bool) {
	left, right, _ := strings.Cut(s, mark)
	a, aOK := readNumber(left)
	b, bOK := readNumber(right)
	return pair{a, b}, aOK && bOK
}

// readNumber is stricter than strconv, which takes signs and needless 0s.
func readNumber(s string) (int, bool) {
	if s == "" || len(s) > maxDigits || s[0] == '0' && s != "0" {
		return 0, false
	}
	n := 0
	for i := range len(s) {
		if s[i] < '0' || s[i] > '9' {
			return 0, false
		}
		n = 10*n + int(s[i]-'0')
	}
	return n, n <= maxNumber
}
