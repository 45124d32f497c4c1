package hash

import "testing"

// plain computes the sum in the words of P1.1, one step after the other.
func plain(label string, words ...int) uint64 {
	var s uint64
	put := func(w uint64) {
		m := (s ^ w) * 0x9E3779B97F4A7C15
		s = m ^ (m >> 32)
	}
	b := []byte(label)
	for len(b)%8 != 0 {
		b = append(b, 0)
	}
	for i := 0; i < len(b); i += 8 {
		var w uint64
		for k := 7; k >= 0; k-- {
			w = w<<8 | uint64(b[i+k])
		}
		put(w)
	}
	put(uint64(len(label)))
	put(uint64(len(words)))
	for _, w := range words {
		put(uint64(w))
	}
	put(0)
	return s
}

func TestSum(t *testing.T) {
	for _, label := range []string{"", "a", "pair", "12345678", "123456789", "rules\x00"} {
		for _, words := range [][]int{nil, {0}, {5}, {-1, 7}, {1 << 62, -1 << 63, 3}} {
			if got, want := Sum(label, words...), plain(label, words...); got != want {
				t.Errorf("Sum(%q, %v) = %x, want %x", label, words, got, want)
			}
		}
	}
	if Sum("a", 5) == Sum("a", 6) || Sum("a") == Sum("a", 0) || Sum("a") == Sum("a\x00") {
		t.Error("sums that have to differ are equal")
	}
}

func TestBytesAndPair(t *testing.T) {
	if Bytes("a", []byte{1, 2}) != Sum("a", 513, 2) {
		t.Error("the example of section 1")
	}
	if Bytes("a", nil) != Sum("a", 0) || Bytes("x", make([]byte, 8)) != Sum("x", 0, 8) {
		t.Error("empty slice or whole group")
	}
	if Bytes("x", []byte{0, 0, 0, 0, 0, 0, 0, 255, 9}) != Sum("x", -1<<56, 9, 9) {
		t.Error("a group with the highest bit, and a padded one")
	}
	if Pair(1<<63, 2) != Sum("pair", -1<<63, 2) || Pair(1, 2) == Pair(2, 1) {
		t.Error("pair")
	}
}

func TestInjective(t *testing.T) {
	seen := map[uint64]bool{}
	for n := -500; n < 500; n++ {
		for _, h := range []uint64{Sum("n", n, 3), Sum("n", 3, n, 3), Pair(uint64(n), 9)} {
			if seen[h] {
				t.Fatalf("two lists that differ in one element have the hash %x", h)
			}
			seen[h] = true
		}
	}
	b := []byte("some bytes of two groups")
	h := Bytes("b", b)
	for i := range b {
		b[i] ^= 16
		if Bytes("b", b) == h {
			t.Errorf("byte %d does not matter", i)
		}
		b[i] ^= 16
	}
	if Bytes("b", b) != h {
		t.Error("equal bytes have different hashes")
	}
}
