package feed

import (
	"sync"

	"freehold/api"
)

// taken is what fits of a row, so many at most, and whether more is left. The row is told by a goroutine that hands over one by one; it has ended when taken answers, so that whoever told it looks at the store no more.
func taken[T any](tell func(hand func(x T) bool), size func(x T) int, limit int) ([]T, bool) {
	next, done := make(chan T), make(chan struct{})
	var telling sync.WaitGroup
	telling.Add(1)
	go func() {
		defer telling.Done()
		defer close(next)
		tell(func(x T) bool {
			select {
			case next <- x:
				return true
			case <-done:
				return false
			}
		})
	}()
	l, more := fitting(next, size, limit)
	close(done)
	telling.Wait()
	return l, more
}

// fitting takes from a row what fits; and then one more, if there is one: that more is left nothing else tells.
func fitting[T any](row <-chan T, size func(x T) int, limit int) ([]T, bool) {
	var l []T
	sum := 0
	for x := range row {
		sum += size(x)
		if len(l) == limit || sum > api.MaxObject && len(l) > 0 {
			return l, true
		}
		l = append(l, x)
	}
	return l, false
}
