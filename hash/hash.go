// Package hash is layer 1: 64-bit hashes.
package hash

import "iter"

const factor = 0x9E3779B97F4A7C15

// mix puts a word into a state; for a fixed word it is a bijection of the state, and the other way round.
func mix(state, word uint64) uint64 {
	m := (state ^ word) * factor
	return m ^ m>>32
}

// groups yields the words of a byte slice: little-endian groups of 8 bytes, the last one padded with zeros.
func groups(b []byte) iter.Seq[uint64] {
	return func(yield func(uint64) bool) {
		for from := 0; from < len(b); from += 8 {
			var word uint64
			for i, x := range b[from:min(from+8, len(b))] {
				word |= uint64(x) << (8 * i)
			}
			if !yield(word) {
				return
			}
		}
	}
}

// Sum returns the hash of a label and words.
func Sum(label string, words ...int) uint64 {
	var state uint64
	for word := range groups([]byte(label)) {
		state = mix(state, word)
	}
	state = mix(state, uint64(len(label)))
	state = mix(state, uint64(len(words)))
	for _, word := range words {
		state = mix(state, uint64(word))
	}
	return mix(state, 0)
}

// Bytes returns the hash of a label and bytes.
func Bytes(label string, b []byte) uint64 {
	words := make([]int, 0, len(b)/8+2)
	for word := range groups(b) {
		words = append(words, int(word))
	}
	return Sum(label, append(words, len(b))...)
}

// Pair returns the hash of two hashes.
func Pair(a, b uint64) uint64 {
	return Sum("pair", int(a), int(b))
}
