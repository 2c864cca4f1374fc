package pack_test

import (
	"hash/crc32"
	"math/rand"
	"strings"
	"testing"

	"timeweft/pack"
)

// sums reports a sum that isn't the one that is wanted.
func sums(t *testing.T, s string, want uint32) {
	t.Helper()
	if got := pack.Sum(s); got != want {
		t.Errorf("%.40q: %08x, not %08x", s, got, want)
	}
}

// holdSum asks for the sum that the library of the language tells.
func holdSum(t *testing.T, s string) {
	t.Helper()
	sums(t, s, crc32.ChecksumIEEE([]byte(s)))
}

// TestKnownSums: what others tell of these texts, too.
func TestKnownSums(t *testing.T) {
	sums(t, "", 0)
	sums(t, "\x00", 0xd202ef8d)
	sums(t, "\xff", 0xff000000)
	sums(t, "\xff\xff\xff\xff", 0xffffffff)
	sums(t, "\x00\x00\x00\x00", 0x2144df1c)
	sums(t, "a", 0xe8b7be43)
	sums(t, "abc", 0x352441c2)
	sums(t, "123456789", 0xcbf43926)
	sums(t, "The quick brown fox jumps over the lazy dog", 0x414fa339)
}

// TestSmallSums: all texts of one and of two bytes.
func TestSmallSums(t *testing.T) {
	for x := range 256 {
		holdSum(t, string([]byte{byte(x)}))
		for y := range 256 {
			holdSum(t, string([]byte{byte(x), byte(y)}))
		}
	}
}

// TestSumsOfBytes: a text is bytes, whether or not they are the letters of one.
func TestSumsOfBytes(t *testing.T) {
	for _, s := range []string{"ä", "\u20ac\U0001f600", "\x80", "\xc3", "\xff\xfe\x00", "\ufffd", "a\x00", "\x00a", "a\n", "a\r\n"} {
		holdSum(t, s)
	}
}

// TestLongSums: texts of all lengths up to 300, and some beyond all bounds of graphs and their texts.
func TestLongSums(t *testing.T) {
	r := rand.New(rand.NewSource(12))
	some := make([]byte, 1<<17)
	r.Read(some)
	for n := range 300 {
		holdSum(t, string(some[:n]))
		holdSum(t, strings.Repeat("\x00", n))
	}
	for _, n := range []int{8191, 8192, 8193, 65535, 65536, 65537, len(some)} {
		holdSum(t, string(some[:n]))
		holdSum(t, string(some[len(some)-n:]))
	}
}

// TestSumTwice: nothing stays of the sums ahead.
func TestSumTwice(t *testing.T) {
	for range 3 {
		sums(t, "123456789", 0xcbf43926)
		sums(t, "", 0)
		holdSum(t, "another")
	}
}
