// Package remember spares a question that has been asked already.
package remember

// known is an answer that has been given.
type known[V any] struct{ answer V }

// Answers makes a function that answers as ask does, but asks it only once about the same thing.
func Answers[K comparable, V any](ask func(about K) V) func(about K) V {
	all := map[K]known[V]{}
	return func(about K) V {
		k, ok := all[about]
		if !ok {
			k = known[V]{ask(about)}
			all[about] = k
		}
		return k.answer
	}
}
