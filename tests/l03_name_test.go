package tests

import (
	"math"
	"testing"

	"loop.example/g00740/impl"
)

// someKeys are ordinary keys and those at the edges.
var someKeys = []int64{0, 1, 2, 7, 8, 9, 127, 128, 255, 256, 257, 1000, 4711, 32767, 32768, 40001, 65280, 65534, 65535}

// noKeys are numbers that are no keys; some of them are one again in their lowest bits.
var noKeys = []int64{-1, -2, -255, -65535, -65536, 65536, 65537, 1 << 17, 1 << 32, 1<<32 + 9, math.MaxInt64, math.MaxInt64 - 65535, math.MinInt64, math.MinInt64 + 7}

// mixByWords follows the document's sentence with numbers that never wrap here.
func mixByWords(key int64, round int64, half int64) int64 {
	return (half + round) * (key + 2*round + 1) / 8 % 256
}

func permuteByWords(key int64, n int64) int64 {
	left, right := n/256, n%256
	for round := int64(0); round < 4; round++ {
		left, right = right, left^mixByWords(key, round, right)
	}
	return left*256 + right
}

func TestMixByHand(t *testing.T) {
	same(t, "MaxIds", impl.MaxIds, 1000)
	for _, one := range []struct{ key, round, half, want int64 }{
		{0, 0, 0, 0},
		{0, 0, 7, 0},
		{0, 0, 8, 1},
		{7, 0, 1, 1},
		{7, 3, 255, 195},
		{0, 1, 0, 0},
		{0, 3, 0, 2},              // 3 times 7 is 21
		{0, 3, 255, 225},          // 258 times 7 is 1806
		{65535, 0, 0, 0},          // 0 times 65536
		{65535, 0, 1, 0},          // 65536 by 8 is 8192, 32 times 256
		{65535, 0, 255, 0},        // 255 times 8192
		{65535, 1, 0, 0},          // 65538 by 8 is 8192, and 2 are left
		{65535, 1, 255, 64},       // 256 times 65538 by 8 is 32 times 65538
		{65535, 3, 255, 193},      // 258 times 65542 is 16909836, by 8 it is 2113729
		{65535, 2, 100, 51},       // 102 times 65540 is 6685080, by 8 it is 835635
		{1000, 2, 30, 4020 % 256}, // 32 times 1005 by 8
	} {
		same(t, "Mix", impl.Mix(one.key, one.round, one.half), one.want)
	}
}

func TestMixByTheDocument(t *testing.T) {
	for _, key := range someKeys {
		for round := int64(0); round <= 3; round++ {
			for half := int64(0); half <= 255; half++ {
				same(t, "Mix", impl.Mix(key, round, half), mixByWords(key, round, half))
			}
		}
	}
}

func TestMixOfWrongNumbers(t *testing.T) {
	for _, no := range noKeys {
		for round := int64(0); round <= 3; round++ {
			same(t, "key", impl.Mix(no, round, 0), int64(-1))
			same(t, "key", impl.Mix(no, round, 255), int64(-1))
			same(t, "half", impl.Mix(0, round, no), int64(-1))
			same(t, "half", impl.Mix(65535, round, no), int64(-1))
		}
		same(t, "round", impl.Mix(9, no, 9), int64(-1))
		same(t, "all of them", impl.Mix(no, no, no), int64(-1))
	}
	for _, key := range someKeys {
		for _, round := range []int64{-4, -3, -1, 4, 5, 7, 8, 256, 1 << 32} {
			same(t, "round", impl.Mix(key, round, 0), int64(-1))
			same(t, "round", impl.Mix(key, round, 255), int64(-1))
		}
		for _, half := range []int64{-256, -255, -1, 256, 257, 511, 512, 65535} {
			same(t, "half", impl.Mix(key, 0, half), int64(-1))
			same(t, "half", impl.Mix(key, 3, half), int64(-1))
		}
	}
}

func TestPermuteByHand(t *testing.T) {
	// Of key 0 and n 0 the halves are 0 0, then 0 0, then 0 0, then 0 1 (2 times 5 by 8), then 1 3 (4 times 7 by 8).
	same(t, "of 0", impl.Permute(0, 0), int64(259))
	same(t, "back to 0", impl.Unpermute(0, 259), int64(0))
	for _, key := range []int64{0, 65535} {
		for _, n := range []int64{0, 1, 255, 256, 65280, 65534, 65535} {
			same(t, "Permute", impl.Permute(key, n), permuteByWords(key, n))
		}
	}
}

// Promise 4: what is permuted comes back, and what comes back is permuted again, for all n of a key.
func TestPermutedComesBack(t *testing.T) {
	for _, key := range someKeys {
		seen := make([]bool, 65536)
		for n := int64(0); n <= 65535; n++ {
			to := impl.Permute(key, n)
			if to != permuteByWords(key, n) {
				t.Fatalf("Permute(%d, %d): got %d, want %d", key, n, to, permuteByWords(key, n))
			}
			if seen[to] {
				t.Fatalf("key %d: %d is told twice", key, to)
			}
			seen[to] = true
			if back := impl.Unpermute(key, to); back != n {
				t.Fatalf("Unpermute(%d, %d): got %d, want %d", key, to, back, n)
			}
			if again := impl.Permute(key, impl.Unpermute(key, n)); again != n {
				t.Fatalf("Permute of Unpermute(%d, %d): got %d", key, n, again)
			}
		}
	}
}

// Promise 4, the other way about: few n, but all keys.
func TestPermutedComesBackOfAllKeys(t *testing.T) {
	for key := int64(0); key <= 65535; key++ {
		for _, n := range []int64{0, 1, 255, 256, 999, 4711, 65535} {
			to := impl.Permute(key, n)
			if to != permuteByWords(key, n) || impl.Unpermute(key, to) != n {
				t.Fatalf("key %d, n %d: told %d, back %d", key, n, to, impl.Unpermute(key, to))
			}
		}
	}
}

func TestPermuteOfWrongNumbers(t *testing.T) {
	for _, no := range noKeys {
		for _, right := range someKeys {
			same(t, "Permute, key", impl.Permute(no, right), int64(-1))
			same(t, "Permute, n", impl.Permute(right, no), int64(-1))
			same(t, "Unpermute, key", impl.Unpermute(no, right), int64(-1))
			same(t, "Unpermute, n", impl.Unpermute(right, no), int64(-1))
		}
		same(t, "Permute, both", impl.Permute(no, no), int64(-1))
		same(t, "Unpermute, both", impl.Unpermute(no, no), int64(-1))
	}
}

func TestStreamRight(t *testing.T) {
	for _, key := range someKeys {
		for count := int64(-3); count <= 1003; count++ {
			same(t, "count", impl.StreamRight(impl.Stream{Key: key, Count: count}), count >= 0 && count <= 1000)
		}
		for _, count := range []int64{-1000, 2000, 1 << 32, math.MaxInt64, math.MinInt64} {
			same(t, "count", impl.StreamRight(impl.Stream{Key: key, Count: count}), false)
		}
	}
	for _, no := range noKeys {
		for _, count := range []int64{0, 1, 999, 1000} {
			same(t, "no key", impl.StreamRight(impl.Stream{Key: no, Count: count}), false)
		}
	}
}

// Promise 4: of one key no two names are alike, from the first one to the last one of MaxIds.
func TestNoTwoNamesAlike(t *testing.T) {
	for _, key := range someKeys {
		seen := map[int64]bool{}
		s := impl.Stream{Key: key}
		for count := int64(0); count < impl.MaxIds; count++ {
			out := impl.StreamNext(s)
			same(t, "next", out, impl.StreamOut{Stream: impl.Stream{Key: key, Count: count + 1}, Id: permuteByWords(key, count)})
			if seen[out.Id] {
				t.Errorf("key %d: name %d is told twice", key, out.Id)
			}
			seen[out.Id] = true
			same(t, "handed in, not changed", s, impl.Stream{Key: key, Count: count})
			s = out.Stream
		}
		same(t, "names", len(seen), impl.MaxIds)
		same(t, "full", impl.StreamNext(s), impl.StreamOut{Code: impl.ErrFull})
	}
}

func TestStreamNextAtItsEdges(t *testing.T) {
	for _, key := range []int64{0, 65535} {
		same(t, "none yet", impl.StreamNext(impl.Stream{Key: key}), impl.StreamOut{Stream: impl.Stream{Key: key, Count: 1}, Id: permuteByWords(key, 0)})
		same(t, "the last one", impl.StreamNext(impl.Stream{Key: key, Count: 999}), impl.StreamOut{Stream: impl.Stream{Key: key, Count: 1000}, Id: permuteByWords(key, 999)})
		same(t, "all of them", impl.StreamNext(impl.Stream{Key: key, Count: 1000}), impl.StreamOut{Code: impl.ErrFull})
		for _, count := range []int64{-1, -1000, 1001, 65535, math.MaxInt64, math.MinInt64} {
			same(t, "no count", impl.StreamNext(impl.Stream{Key: key, Count: count}), impl.StreamOut{Code: impl.ErrForm})
		}
	}
	for _, no := range noKeys {
		// A stream that is not right is told so, even if it is full, too.
		for _, count := range []int64{0, 999, 1000, 1001, -1} {
			same(t, "no key", impl.StreamNext(impl.Stream{Key: no, Count: count}), impl.StreamOut{Code: impl.ErrForm})
		}
	}
}
