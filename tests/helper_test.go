package tests

import (
	"slices"
	"testing"
)

const spareMark = -77

// argument is a list with marked spare room behind it, so that a function
// that writes into it, or answers with a part of it, is found out.
type argument struct {
	list []int64
	kept []int64
}

func argumentOf(list []int64) argument {
	whole := make([]int64, len(list)+4)
	copy(whole, list)
	for i := len(list); i < len(whole); i++ {
		whole[i] = spareMark
	}
	return argument{list: whole[:len(list)], kept: slices.Clone(whole)}
}

func (a argument) untouched() bool {
	return slices.Equal(a.list[:cap(a.list)], a.kept)
}

// spoil writes over all the memory of an answer: whatever shares it, changes.
func spoil(answer []int64) {
	whole := answer[:cap(answer)]
	for i := range whole {
		whole[i] = -55
	}
}

// checkFresh calls twice and spoils the first answer in between.
func checkFresh(t *testing.T, name string, call func() []int64, given ...argument) {
	t.Helper()
	first := call()
	kept := slices.Clone(first)
	spoil(first)
	if again := call(); !slices.Equal(kept, again) {
		t.Errorf("%s: first %v, then %v: an answer is kept from call to call, or is a part of an argument", name, kept, again)
	}
	for i, a := range given {
		if !a.untouched() {
			t.Errorf("%s: argument %d was %v, is %v", name, i, a.kept, a.list[:cap(a.list)])
		}
	}
}
