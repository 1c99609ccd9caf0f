package solve

import (
	"math/bits"
)

// set is a set of small numbers: a bit for each of them. Regions are many, and what outlives them are few: whole words of nothing are passed by at once.
type set []uint64

const word = 64

// newSets: so many sets of numbers below n, with nothing in them.
func newSets(count, n int) []set {
	l := make([]set, count)
	for i := range count {
		l[i] = make(set, (n+word-1)/word)
	}
	return l
}

func (s set) has(n int) bool { return s[n/word]>>(n%word)&1 == 1 }

func (s set) add(n int) { s[n/word] |= 1 << (n % word) }

// addNew adds all of another set, and answers l with those behind it that weren't in the first one.
func (s set) addNew(t set, l []int) []int {
	for i := range s {
		fresh := t[i] &^ s[i]
		s[i] |= fresh
		for ; fresh != 0; fresh &= fresh - 1 {
			l = append(l, i*word+bits.TrailingZeros64(fresh))
		}
	}
	return l
}
