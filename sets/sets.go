// Package sets has sets of small numbers, as layers share them: a bit for each number. Numbers are many, and those in one set are often few: whole words of nothing are passed by at once.
package sets

import (
	"math/bits"
)

// Set is a set of numbers below the one that it was made for.
type Set []uint64

const word = 64

// New: a set of numbers below n, with nothing in it.
func New(n int) Set { return make(Set, (n+word-1)/word) }

// Several: so many sets of numbers below n, with nothing in them.
func Several(count, n int) []Set {
	l := make([]Set, count)
	for i := range count {
		l[i] = New(n)
	}
	return l
}

// Has: is a number in it?
func (s Set) Has(n int) bool { return s[n/word]>>(n%word)&1 == 1 }

// Add: a number is in it.
func (s Set) Add(n int) { s[n/word] |= 1 << (n % word) }

// AddAll: all of another set, made for as many numbers, is in it.
func (s Set) AddAll(t Set) {
	for i := range s {
		s[i] |= t[i]
	}
}

// AddNew adds all of another set, and answers l with those behind it, rising, that weren't in the first one.
func (s Set) AddNew(t Set, l []int) []int {
	for i := range s {
		fresh := t[i] &^ s[i]
		s[i] |= fresh
		for ; fresh != 0; fresh &= fresh - 1 {
			l = append(l, i*word+bits.TrailingZeros64(fresh))
		}
	}
	return l
}

// Remove: nothing of another set is in it.
func (s Set) Remove(t Set) {
	for i := range s {
		s[i] &^= t[i]
	}
}
