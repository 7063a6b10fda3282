package sha

import (
	"math/big"
	"testing"
)

// behindPoint is the 32 bits behind the point of p's root of that degree: the greatest number whose power is at most p, moved up by 32 bits for each degree.
func behindPoint(p, degree int64) uint32 {
	most := new(big.Int).Lsh(big.NewInt(p), uint(32*degree))
	root := new(big.Int)
	for bit := 40; bit >= 0; bit-- {
		root.SetBit(root, bit, 1)
		if new(big.Int).Exp(root, big.NewInt(degree), nil).Cmp(most) > 0 {
			root.SetBit(root, bit, 0)
		}
	}
	return uint32(root.Uint64())
}

func primes(n int) []int64 {
	var l []int64
	for x := int64(2); len(l) < n; x++ {
		if big.NewInt(x).ProbablyPrime(0) {
			l = append(l, x)
		}
	}
	return l
}

// Ways: the words that a digest begins with are those that roots tell.
func TestWordsAreRoots(t *testing.T) {
	for i, p := range primes(len(rounds)) {
		if want := behindPoint(p, 3); rounds[i] != want {
			t.Errorf("round %d: %08x, want %08x", i, rounds[i], want)
		}
		if i >= len(first) {
			continue
		}
		if want := behindPoint(p, 2); first[i] != want {
			t.Errorf("first %d: %08x, want %08x", i, first[i], want)
		}
	}
}

func BenchmarkSum(b *testing.B) {
	text := make([]byte, 1000)
	b.SetBytes(int64(len(text)))
	for b.Loop() {
		Sum(text)
	}
}
