package checksum

import (
	"bytes"
	"encoding/binary"
	"fmt"
	"math"
	"math/big"
	"math/rand"
	"slices"
	"strings"
	"testing"

	"samaritan/api"
)

// nothing is the initial value of the chapter.
const nothing uint64 = 0xCBF29CE484222325

// values are 64-bit numbers with few bits, many bits and bits in each half.
var values = []uint64{
	0, 1, 2, 0x7f, 0x80, 0xff, 0x100, 0xffff, 1 << 31, 1<<32 - 1, 1 << 32, 1<<32 + 1, 1 << 62,
	math.MaxInt64, 1 << 63, 1<<63 + 1, math.MaxUint64 - 1, math.MaxUint64,
	nothing, 0x100000001B3, 0x0123456789abcdef, 0xfedcba9876543210, 0xffffffff00000000, 0xaaaaaaaaaaaaaaaa,
}

// slowly adds bytes to a checksum as the chapter says, with integers of any size.
func slowly(sum uint64, b []byte) uint64 {
	size := new(big.Int).Lsh(big.NewInt(1), 64)
	factor := big.NewInt(0x100000001B3)
	c := new(big.Int).SetUint64(sum)
	for _, x := range b {
		c.Xor(c, big.NewInt(int64(x)))
		c.Mul(c, factor)
		c.Mod(c, size)
		c.Xor(c, new(big.Int).Rsh(c, 32))
	}
	return c.Uint64()
}

// record is the byte string whose checksum Chain returns.
func record(prev uint64, kind byte, body []byte) []byte {
	b := binary.LittleEndian.AppendUint64(nil, prev)
	b = append(b, kind)
	b = binary.LittleEndian.AppendUint64(b, uint64(len(body)))
	return append(b, body...)
}

// randomBytes returns n bytes.
func randomBytes(random *rand.Rand, n int) []byte {
	b := make([]byte, n)
	random.Read(b)
	return b
}

// samples returns byte strings of many lengths, some of them with nearly equal bytes.
func samples() [][]byte {
	random := rand.New(rand.NewSource(4))
	l := [][]byte{nil, {}, {0}, {1}, {0xff}, {0, 0}, []byte("a"), []byte("samaritan")}
	for n := range 70 {
		l = append(l, make([]byte, n), bytes.Repeat([]byte{0xff}, n), randomBytes(random, n))
	}
	return append(l, randomBytes(random, 255), randomBytes(random, 256), randomBytes(random, 257), randomBytes(random, 5000))
}

// allBytes returns the bytes from 0 to 255.
func allBytes() []byte {
	b := make([]byte, 256)
	for i := range b {
		b[i] = byte(i)
	}
	return b
}

func expect(t *testing.T, what string, got, want uint64) {
	t.Helper()
	if got != want {
		t.Errorf("%s = %016x, want %016x", what, got, want)
	}
}

// The example of the chapter.
func TestExample(t *testing.T) {
	const text = "cbf29ce484222325"
	if got := Format(Sum(nil)); got != text {
		t.Errorf("Sum(nil) is %q", got)
	}
	if got := Format(SumInts()); got != text {
		t.Errorf("SumInts() is %q", got)
	}
}

// P4.1: checksums that were computed elsewhere from the definitions.
func TestSum(t *testing.T) {
	for _, x := range []struct {
		b    []byte
		want uint64
	}{
		{nil, nothing},
		{[]byte{}, nothing},
		{[]byte("a"), 0xaf63dc4c296230c0},
		{[]byte{0}, 0xaf63bd4c29620a93},
		{[]byte{0, 0}, 0x68853b6a3912cca3},
		{[]byte{255}, 0xaf64724c29669922},
		{[]byte("foobar"), 0xa2673fe2639314e6},
		{[]byte("samaritan"), 0x861134009be3ed0f},
		{[]byte("The quick brown fox jumps over the lazy dog"), 0x1abfe8cb367a57d3},
		{allBytes(), 0xc885073e91b74eb2},
		{make([]byte, 1000), 0xe8ed3cc4d1cbe5b1},
	} {
		expect(t, fmt.Sprintf("Sum(%.20q)", x.b), Sum(x.b), x.want)
	}
	for _, b := range samples() {
		expect(t, fmt.Sprintf("Sum(%x)", b), Sum(b), slowly(nothing, b))
	}
}

// P4.1: Update adds to any checksum.
func TestUpdate(t *testing.T) {
	for _, x := range []struct {
		sum  uint64
		b    []byte
		want uint64
	}{
		{0, nil, 0},
		{0, []byte{}, 0},
		{5, nil, 5},
		{math.MaxUint64, nil, math.MaxUint64},
		{0, []byte{0}, 0},
		{0, []byte("a"), 0x000061000000c5d3},
		{1, []byte{255}, 0x0000fe000001519a},
		{math.MaxUint64, []byte("abc"), 0x84679ad9b82d8948},
	} {
		expect(t, fmt.Sprintf("Update(%x, %q)", x.sum, x.b), Update(x.sum, x.b), x.want)
	}
	for _, sum := range values {
		for x := range 256 {
			b := []byte{byte(x)}
			expect(t, fmt.Sprintf("Update(%x, %x)", sum, b), Update(sum, b), slowly(sum, b))
		}
		for _, b := range samples()[:100] {
			expect(t, fmt.Sprintf("Update(%x, %x)", sum, b), Update(sum, b), slowly(sum, b))
		}
	}
}

// P4.1: Chain covers the previous checksum, the kind, the length and the body.
func TestChain(t *testing.T) {
	for _, x := range []struct {
		prev uint64
		kind byte
		body []byte
		want uint64
	}{
		{0, 0, nil, 0x04e57034899d76a4},
		{0, 0, []byte{}, 0x04e57034899d76a4},
		{nothing, 0, nil, 0x3779b0966d9ec4b8},
		{1, 2, []byte("abc"), 0x0a5737c311511558},
		{math.MaxUint64, 255, allBytes(), 0x8035c69274241940},
		{0x0123456789abcdef, 7, bytes.Repeat([]byte("x"), 300), 0xc2dacc05a4d788cd},
		{Chain(nothing, 1, []byte("first")), 2, []byte("second"), 0x479ab066532c6811},
	} {
		expect(t, fmt.Sprintf("Chain(%x, %d, %.20q)", x.prev, x.kind, x.body), Chain(x.prev, x.kind, x.body), x.want)
	}
	for _, prev := range values {
		for _, kind := range []byte{0, 1, 127, 128, 255} {
			for _, body := range samples()[:40] {
				expect(t, fmt.Sprintf("Chain(%x, %d, %x)", prev, kind, body), Chain(prev, kind, body), Sum(record(prev, kind, body)))
			}
		}
	}
	for _, body := range samples() {
		expect(t, fmt.Sprintf("Chain(3, 4, %x)", body), Chain(3, 4, body), slowly(nothing, record(3, 4, body)))
	}
	large := make([]byte, 70000)
	expect(t, "Chain of 70000 bytes", Chain(9, 8, large), Sum(record(9, 8, large)))
}

// P4.1: SumInts takes any number of integers, of either sign.
func TestSumInts(t *testing.T) {
	for _, x := range []struct {
		l    []int64
		want uint64
	}{
		{nil, nothing},
		{[]int64{}, nothing},
		{[]int64{0}, 0xf2db068764d37a7c},
		{[]int64{1}, 0xc7c0a1fd3c9c332f},
		{[]int64{-1}, 0x2078c694e79bb89e},
		{[]int64{0, 0}, 0xf1f7b85992dcf730},
		{[]int64{1, 2, 3}, 0xa549c0e8909e989f},
		{[]int64{3, 2, 1}, 0xe03f5e8006e23b37},
		{[]int64{math.MinInt64, math.MaxInt64}, 0xb424590e3043b53d},
		{[]int64{0x0102030405060708}, 0xcfb567133538dc2f},
	} {
		expect(t, fmt.Sprintf("SumInts(%d)", x.l), SumInts(x.l...), x.want)
	}
	expect(t, "SumInts(1, 2, 3)", SumInts(1, 2, 3), 0xa549c0e8909e989f)
	sum := nothing
	expect(t, "SumInts of a converted checksum", SumInts(int64(sum)), 0x2a0a1d6c5c97d2f0)
	random := rand.New(rand.NewSource(5))
	for n := range 60 {
		var l []int64
		var b []byte
		for range n {
			x := int64(random.Uint64()) >> random.Intn(64)
			l = append(l, x)
			b = binary.LittleEndian.AppendUint64(b, uint64(x))
		}
		expect(t, fmt.Sprintf("SumInts(%d)", l), SumInts(l...), slowly(nothing, b))
	}
	for _, x := range values {
		expect(t, fmt.Sprintf("SumInts(%d)", int64(x)), SumInts(int64(x)), Sum(binary.LittleEndian.AppendUint64(nil, x)))
	}
}

// P4.1: checksums and their texts, in both directions.
func TestFormatAndParse(t *testing.T) {
	for _, x := range []struct {
		sum  uint64
		text string
	}{
		{0, "0000000000000000"},
		{1, "0000000000000001"},
		{10, "000000000000000a"},
		{15, "000000000000000f"},
		{16, "0000000000000010"},
		{1 << 32, "0000000100000000"},
		{1 << 63, "8000000000000000"},
		{math.MaxInt64, "7fffffffffffffff"},
		{0x0123456789abcdef, "0123456789abcdef"},
		{0xfedcba9876543210, "fedcba9876543210"},
		{nothing, "cbf29ce484222325"},
		{math.MaxUint64, "ffffffffffffffff"},
	} {
		if got := Format(x.sum); got != x.text {
			t.Errorf("Format(%d) = %q, want %q", x.sum, got, x.text)
		}
		if got, e := Parse(x.text); got != x.sum || e != api.OK {
			t.Errorf("Parse(%q) = %d, %d, want %d, OK", x.text, got, e, x.sum)
		}
	}
	random := rand.New(rand.NewSource(6))
	for i := range 10000 {
		sum := random.Uint64() >> (i % 64)
		text := Format(sum)
		if text != fmt.Sprintf("%016x", sum) {
			t.Errorf("Format(%d) = %q", sum, text)
		}
		if got, e := Parse(text); got != sum || e != api.OK {
			t.Errorf("Parse(%q) = %d, %d, want %d, OK", text, got, e, sum)
		}
	}
}

// refused checks that Parse returns 0 and ErrSyntax.
func refused(t *testing.T, text string) {
	t.Helper()
	if sum, e := Parse(text); sum != 0 || e != api.ErrSyntax {
		t.Errorf("Parse(%.40q) = %d, %d, want 0, ErrSyntax", text, sum, e)
	}
}

// P4.1: strings that are not formatted checksums.
func TestParseRefuses(t *testing.T) {
	for _, text := range []string{
		"", "0", "1", "a", "f", " ", "\x00", "\xff",
		"000000000000000", "00000000000000000", "cbf29ce48422232", "cbf29ce4842223250", "0cbf29ce484222325", "fffffffffffffff", "fffffffffffffffff", "10000000000000000",
		"CBF29CE484222325", "cbf29ce48422232F", "Cbf29ce484222325", "FFFFFFFFFFFFFFFF", "000000000000000A",
		"000000000000000g", "g000000000000000", "0000000z00000000", "000000000000000/", "000000000000000:", "000000000000000`", "000000000000000@",
		"+000000000000000", "-000000000000000", "+0000000000000000", "-0000000000000001", "-000000000000001",
		"0x00000000000000", "0x0000000000000000", "0x000000000000001", "0X00000000000000", "0b00000000000000x", "00000000_0000000", "0000_0000_0000_0000",
		" 000000000000000", "000000000000000 ", " 0000000000000000", "0000000000000000 ", "0000000000000000\n", "0000000000000000\x00", "00000000 0000000", "00000000.0000000",
		"００００００００００００００００", "٠٠٠٠٠٠٠٠", "000000000000000é", "00000000000000é",
		"18446744073709551615", "18446744073709551616", "99999999999999999999999999999999",
	} {
		refused(t, text)
	}
	refused(t, strings.Repeat("0", 1000000))
	refused(t, strings.Repeat("f", 1000000))
	refused(t, strings.Repeat("0000000000000000", 2))
}

// P4.1: of all strings that differ from a format in one byte, those with another lowercase hexadecimal digit are accepted.
func TestParseNeighbors(t *testing.T) {
	const digits = "0123456789abcdef"
	for _, sum := range values {
		text := Format(sum)
		for i := range text {
			refused(t, text[:i]+text[i+1:])
			for x := range 256 {
				refused(t, text[:i]+string([]byte{byte(x)})+text[i:])
				other := text[:i] + string([]byte{byte(x)}) + text[i+1:]
				digit := strings.IndexByte(digits, byte(x))
				if digit < 0 {
					refused(t, other)
					continue
				}
				shift := 4 * (15 - i)
				want := sum&^(15<<shift) | uint64(digit)<<shift
				if got, e := Parse(other); got != want || e != api.OK {
					t.Errorf("Parse(%q) = %d, %d, want %d, OK", other, got, e, want)
				}
			}
		}
	}
}

// P4.1: the arguments stay as they are, bytes behind them are not read, and a second call returns the same.
func TestArgumentsStay(t *testing.T) {
	b := []byte("0123456789")
	l := []int64{4, 5, 6, 7}
	sums := func(end byte) [4]uint64 {
		copy(b[5:], bytes.Repeat([]byte{end}, 5))
		l[3] = int64(end)
		return [4]uint64{Sum(b[:5]), Update(1, b[:5]), Chain(1, 2, b[:5]), SumInts(l[:3]...)}
	}
	if first, second := sums('x'), sums('y'); first != second {
		t.Errorf("%x and then %x", first, second)
	}
	if string(b) != "01234yyyyy" || !slices.Equal(l, []int64{4, 5, 6, 'y'}) {
		t.Errorf("the arguments are now %q and %d", b, l)
	}
}

// P4.2: Update(Sum(a), b) is Sum(a followed by b), wherever a byte string is divided.
func TestUpdateContinuesSum(t *testing.T) {
	for _, s := range samples()[:200] {
		want := Sum(s)
		for i := range len(s) + 1 {
			expect(t, fmt.Sprintf("Update(Sum(%x), %x)", s[:i], s[i:]), Update(Sum(s[:i]), s[i:]), want)
		}
	}
}

// P4.2: each change of one byte changes the checksum of a byte string, and that of a record with this body.
func TestOneByteChanged(t *testing.T) {
	random := rand.New(rand.NewSource(7))
	for _, n := range []int{1, 2, 3, 8, 17, 64} {
		for _, b := range [][]byte{make([]byte, n), bytes.Repeat([]byte{0xff}, n), randomBytes(random, n)} {
			sum, chained := Sum(b), Chain(nothing, 3, b)
			for i := range b {
				for d := 1; d < 256; d++ {
					changed := bytes.Clone(b)
					changed[i] ^= byte(d)
					if Sum(changed) == sum {
						t.Errorf("%x and %x have the same checksum", b, changed)
					}
					if Chain(nothing, 3, changed) == chained {
						t.Errorf("records with the bodies %x and %x have the same checksum", b, changed)
					}
				}
			}
		}
	}
}

// P4.1 and P4.2: a change of one byte of the previous checksum, of the kind or of an integer changes the checksum, too.
func TestOneNumberChanged(t *testing.T) {
	body := []byte("body")
	for _, n := range values {
		for i := range 8 {
			for d := uint64(1); d < 256; d++ {
				m := n ^ d<<(8*i)
				if Chain(n, 1, body) == Chain(m, 1, body) {
					t.Errorf("records after %x and %x have the same checksum", n, m)
				}
				if SumInts(1, int64(n), 2) == SumInts(1, int64(m), 2) {
					t.Errorf("%x and %x have the same checksum", n, m)
				}
			}
		}
	}
	kinds := map[uint64]int{}
	for kind := range 256 {
		kinds[Chain(nothing, byte(kind), body)] = kind
	}
	if len(kinds) != 256 {
		t.Errorf("256 kinds have %d checksums", len(kinds))
	}
}

// P4.2: checksums that differ still differ after the same bytes, even if they differ in a single bit.
func TestDifferencesStay(t *testing.T) {
	tails := samples()[:60]
	for _, sum := range values {
		for bit := range 64 {
			other := sum ^ 1<<bit
			for _, tail := range tails {
				if Update(sum, tail) == Update(other, tail) {
					t.Errorf("%x and %x become equal after %x", sum, other, tail)
				}
			}
		}
	}
	for _, tail := range tails {
		seen := map[uint64]bool{}
		for _, sum := range values {
			seen[Update(sum, tail)] = true
		}
		if len(seen) != len(values) {
			t.Errorf("%d checksums become %d after %x", len(values), len(seen), tail)
		}
	}
}

// remove undoes the addition of the bytes of b.
func remove(sum uint64, b []byte) uint64 {
	factor := new(big.Int).ModInverse(big.NewInt(0x100000001B3), new(big.Int).Lsh(big.NewInt(1), 64)).Uint64()
	for _, x := range slices.Backward(b) {
		sum = (sum^sum>>32)*factor ^ uint64(x)
	}
	return sum
}

// P4.2: a checksum and the bytes that were added to it determine what it was before, so that no two can become equal.
func TestStepsCanBeUndone(t *testing.T) {
	random := rand.New(rand.NewSource(8))
	for _, b := range samples() {
		for _, sum := range append([]uint64{random.Uint64(), random.Uint64()}, values...) {
			expect(t, fmt.Sprintf("before %x", b), remove(Update(sum, b), b), sum)
		}
	}
}
