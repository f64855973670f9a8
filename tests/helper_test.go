package tests

import (
	"slices"
	"testing"

	"loop.example/g00697/impl"
)

const spareMark = -77
const spoiledMark = -55

// argument is a list with marked spare room behind it, so that a function
// that writes into it, or answers with a part of it, is found out.
type argument[T comparable] struct {
	list []T
	kept []T
}

func argumentWith[T comparable](list []T, mark T) argument[T] {
	whole := make([]T, len(list)+4)
	copy(whole, list)
	for i := len(list); i < len(whole); i++ {
		whole[i] = mark
	}
	return argument[T]{list: whole[:len(list)], kept: slices.Clone(whole)}
}

func argumentOf(list []int64) argument[int64] {
	return argumentWith(list, spareMark)
}

func termsArgument(e []impl.Term) argument[impl.Term] {
	return argumentWith(e, impl.Term{Op: spareMark, N: spareMark})
}

func (a argument[T]) untouched() bool {
	return slices.Equal(a.list[:cap(a.list)], a.kept)
}

// spoil writes over all the memory of an answer: whatever shares it, changes.
func spoil[T any](answer []T, mark T) {
	whole := answer[:cap(answer)]
	for i := range whole {
		whole[i] = mark
	}
}

// checkFresh calls twice and spoils the first answer in between.
func checkFresh(t *testing.T, name string, call func() []int64, given ...argument[int64]) {
	t.Helper()
	first := call()
	kept := slices.Clone(first)
	spoil(first, spoiledMark)
	if again := call(); !slices.Equal(kept, again) {
		t.Errorf("%s: first %v, then %v: an answer is kept from call to call, or is a part of an argument", name, kept, again)
	}
	for i, a := range given {
		if !a.untouched() {
			t.Errorf("%s: argument %d was %v, is %v", name, i, a.kept, a.list[:cap(a.list)])
		}
	}
}

// checkApart spoils each list of one answer in turn: all the others must stay.
func checkApart[T comparable](t *testing.T, name string, mark T, lists ...[]T) {
	t.Helper()
	for k, list := range lists {
		var kept [][]T
		for _, one := range lists {
			kept = append(kept, slices.Clone(one))
		}
		spoil(list, mark)
		for other := range lists {
			if other != k && !slices.Equal(lists[other], kept[other]) {
				t.Errorf("%s: the lists %d and %d of one answer share memory", name, k, other)
			}
		}
		copy(list, kept[k])
	}
}
