package tests

import (
	"slices"
	"sync"
	"testing"

	"loop.example/g00383/impl"
)

// What the tests of promise 1 ask of each chapter in the same way.

// withRoom is the same list, in memory with more room than it shows.
func withRoom[T any](list []T, behind T) []T {
	room := append(slices.Clone(list), slices.Repeat([]T{behind}, 400)...)
	return room[:len(list)]
}

func allWithRoom[T any](lists [][]T, behind T) [][]T {
	var roomy [][]T
	for _, list := range lists {
		roomy = append(roomy, withRoom(list, behind))
	}
	return roomy
}

// wantUnchanged asks with each list, which has to be the same afterwards, and the room behind it too.
func wantUnchanged[T comparable](t *testing.T, lists [][]T, behind T, ask func(list []T)) {
	t.Helper()
	for i, list := range lists {
		shown := withRoom(list, behind)
		before := slices.Clone(shown[:cap(shown)])
		ask(shown)
		if !slices.Equal(shown[:cap(shown)], before) {
			t.Errorf("the argument at %d, or what is behind it, was changed", i)
		}
	}
}

// wantSideBySide lets several callers ask at the same time, each with arguments of its own: they would hear of each other if anything were kept between them.
func wantSideBySide(t *testing.T, times int, caller func(i int) func() bool) {
	t.Helper()
	wrong := make([]int, 8)
	var all sync.WaitGroup
	for i := range wrong {
		asIs := caller(i)
		all.Go(func() {
			for range times {
				if !asIs() {
					wrong[i]++
				}
			}
		})
	}
	all.Wait()
	for i, n := range wrong {
		if n != 0 {
			t.Errorf("caller %d of several is answered otherwise %d times", i, n)
		}
	}
}

// spoil overwrites a list, and the room behind it that its holder may grow into.
func spoil[T any](list []T, with T) {
	whole := list[:cap(list)]
	for i := range whole {
		whole[i] = with
	}
}

// wantLength: what is told with OK has one of its lengths, and beside another code there is nothing.
func wantLength(t *testing.T, call string, at int, code int64, length int, codes []int64, lengths ...int) {
	t.Helper()
	if code == impl.OK && !slices.Contains(lengths, length) || code != impl.OK && (!slices.Contains(codes, code) || length != 0) {
		t.Errorf("%s at %d: code %d and a length of %d", call, at, code, length)
	}
}
