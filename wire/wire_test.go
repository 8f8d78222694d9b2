package wire

import (
	"bytes"
	"encoding/hex"
	"fmt"
	"math"
	"math/big"
	"math/rand"
	"reflect"
	"slices"
	"strings"
	"testing"
	"time"

	"samaritan/api"
)

// integers are numbers of either sign with few digits, many digits, and the limits of each number of digits.
func integers() []int64 {
	l := []int64{math.MinInt64, math.MinInt64 + 1, math.MaxInt64, math.MaxInt64 - 1, api.Infinite, api.MaxTick}
	for shift := range 63 {
		n := int64(1) << shift
		l = append(l, n-1, n, n+1, -n+1, -n, -n-1)
	}
	for n := int64(-300); n <= 300; n++ {
		l = append(l, n)
	}
	slices.Sort(l)
	return slices.Compact(l)
}

// slowInt is the encoding of an integer as the chapter says, with integers of any size.
func slowInt(n int64) []byte {
	u := new(big.Int).Mul(big.NewInt(2), big.NewInt(n))
	if n < 0 {
		u.Neg(u).Sub(u, big.NewInt(1))
	}
	var b []byte
	for {
		digit := new(big.Int)
		u.DivMod(u, big.NewInt(128), digit)
		if u.Sign() == 0 {
			return append(b, byte(digit.Int64()))
		}
		b = append(b, byte(digit.Int64()+128))
	}
}

// slow is the encoding of any value as the chapter says.
func slow(v any) []byte {
	switch v := v.(type) {
	case int64:
		return slowInt(v)
	case bool:
		if v {
			return []byte{1}
		}
		return []byte{0}
	case []byte:
		return append(slowInt(int64(len(v))), v...)
	case string:
		return append(slowInt(int64(len(v))), v...)
	case []int:
		b := slowInt(int64(len(v)))
		for _, n := range v {
			b = append(b, slowInt(int64(n))...)
		}
		return b
	}
	panic("no value that can be written")
}

// write appends a value with the method for its type.
func write(w *Writer, v any) {
	switch v := v.(type) {
	case int64:
		w.Int(v)
	case bool:
		w.Bool(v)
	case []byte:
		w.Bytes(v)
	case string:
		w.String(v)
	case []int:
		w.Ints(v)
	}
}

// encode writes values with a new Writer.
func encode(l ...any) []byte {
	var w Writer
	for _, v := range l {
		write(&w, v)
	}
	return w.Encoded()
}

// methods has a letter for each method that reads: Int, Bool, Bytes, String, Ints.
const methods = "ibysl"

// methodOf returns the letter of the method that reads a value of the type of v.
func methodOf(v any) byte {
	switch v.(type) {
	case int64:
		return 'i'
	case bool:
		return 'b'
	case []byte:
		return 'y'
	case string:
		return 's'
	}
	return 'l'
}

// zero returns what a method returns after an error.
func zero(method byte) any {
	switch method {
	case 'i':
		return int64(0)
	case 'b':
		return false
	case 'y':
		return []byte{}
	case 's':
		return ""
	}
	return []int{}
}

// read calls a method. It returns empty slices for nil ones, because they are equal.
func read(r *Reader, method byte) any {
	switch method {
	case 'i':
		return r.Int()
	case 'b':
		return r.Bool()
	case 'y':
		return append([]byte{}, r.Bytes()...)
	case 's':
		return r.String()
	}
	return append([]int{}, r.Ints()...)
}

// readAll calls methods one after another.
func readAll(r *Reader, script string) []any {
	var l []any
	for i := range len(script) {
		l = append(l, read(r, script[i]))
	}
	return l
}

// failure is an error that a model is left with.
type failure api.Errno

// model reads bytes by position, as the chapter says.
type model struct {
	b   []byte
	at  int
	err api.Errno
}

// next returns the next byte.
func (m *model) next() byte {
	if m.at == len(m.b) {
		panic(failure(api.ErrTruncated))
	}
	m.at++
	return m.b[m.at-1]
}

func (m *model) int() int64 {
	u, factor := new(big.Int), big.NewInt(1)
	for count := 1; ; count++ {
		b := m.next()
		if count == 10 && b != 1 {
			panic(failure(api.ErrSyntax))
		}
		digit := big.NewInt(int64(b & 127))
		u.Add(u, digit.Mul(digit, factor))
		factor.Mul(factor, big.NewInt(128))
		if b >= 128 {
			continue
		}
		if b == 0 && count > 1 {
			panic(failure(api.ErrSyntax))
		}
		if u.Bit(0) == 0 {
			return u.Rsh(u, 1).Int64()
		}
		return u.Neg(u.Rsh(u.Add(u, big.NewInt(1)), 1)).Int64()
	}
}

func (m *model) length() int {
	n := m.int()
	if n < 0 {
		panic(failure(api.ErrSyntax))
	}
	if n > int64(len(m.b)-m.at) {
		panic(failure(api.ErrTruncated))
	}
	return int(n)
}

func (m *model) bytes() []byte {
	b := []byte{}
	for range m.length() {
		b = append(b, m.next())
	}
	return b
}

// value reads a value, or panics with a failure.
func (m *model) value(method byte) any {
	switch method {
	case 'i':
		return m.int()
	case 'b':
		b := m.next()
		if b > 1 {
			panic(failure(api.ErrSyntax))
		}
		return b == 1
	case 'y':
		return m.bytes()
	case 's':
		return string(m.bytes())
	}
	l := []int{}
	for range m.length() {
		l = append(l, int(m.int()))
	}
	return l
}

func (m *model) read(method byte) (v any) {
	if m.err != api.OK {
		return zero(method)
	}
	defer func() {
		if f, ok := recover().(failure); ok {
			m.err = api.Errno(f)
			v = zero(method)
		}
	}()
	return m.value(method)
}

func (m *model) finish() api.Errno {
	if m.err == api.OK && m.at < len(m.b) {
		return api.ErrSyntax
	}
	return m.err
}

// compare reads b with the methods of a script, and compares each result with the model's.
func compare(t *testing.T, b []byte, script string) {
	t.Helper()
	r, m := NewReader(b), &model{b: b}
	for i := range len(script) {
		got, want := read(r, script[i]), m.read(script[i])
		if !reflect.DeepEqual(got, want) {
			t.Fatalf("%x, %s: value %d is %#v, want %#v", b, script, i, got, want)
		}
		if got, want := r.Finish(), m.finish(); got != want {
			t.Fatalf("%x, %s: after value %d Finish is %d, want %d", b, script, i, got, want)
		}
	}
}

// randomValue returns a value of any type.
func randomValue(random *rand.Rand) any {
	integer := func() int64 { return int64(random.Uint64()) >> random.Intn(64) }
	n := random.Intn(4)
	if random.Intn(10) == 0 {
		n = random.Intn(200)
	}
	b := make([]byte, n)
	random.Read(b)
	switch random.Intn(5) {
	case 0:
		return integer()
	case 1:
		return random.Intn(2) == 1
	case 2:
		return b
	case 3:
		return string(b)
	}
	l := make([]int, n)
	for i := range l {
		l[i] = int(integer())
	}
	return l
}

// randomValues returns some values, and the methods that read them.
func randomValues(random *rand.Rand) ([]any, string) {
	var l []any
	var script []byte
	for range random.Intn(6) {
		v := randomValue(random)
		l = append(l, v)
		script = append(script, methodOf(v))
	}
	return l, string(script)
}

// fromHex returns the bytes of a text such as "80 01".
func fromHex(t *testing.T, text string) []byte {
	t.Helper()
	b, err := hex.DecodeString(strings.ReplaceAll(text, " ", ""))
	if err != nil {
		t.Fatal(err)
	}
	return b
}

// encodings are values and their encodings.
var encodings = []struct {
	v    any
	text string
}{
	// The examples of the chapter.
	{int64(0), "00"},
	{int64(-1), "01"},
	{int64(1), "02"},
	{int64(64), "80 01"},
	{"ab", "04 61 62"},
	{[]int{1, -1}, "04 02 01"},

	{int64(-2), "03"},
	{int64(63), "7e"},
	{int64(-64), "7f"},
	{int64(-65), "81 01"},
	{int64(8191), "fe 7f"},
	{int64(-8192), "ff 7f"},
	{int64(8192), "80 80 01"},
	{int64(-8193), "81 80 01"},
	{int64(300), "d8 04"},
	{int64(1 << 62), "80 80 80 80 80 80 80 80 80 01"},
	{int64(1<<62 - 1), "fe ff ff ff ff ff ff ff 7f"},
	{int64(-1 << 62), "ff ff ff ff ff ff ff ff 7f"},
	{int64(math.MaxInt64), "fe ff ff ff ff ff ff ff ff 01"},
	{int64(math.MinInt64), "ff ff ff ff ff ff ff ff ff 01"},
	{false, "00"},
	{true, "01"},
	{[]byte{}, "00"},
	{[]byte{0}, "02 00"},
	{[]byte{0, 255, 128}, "06 00 ff 80"},
	{bytes.Repeat([]byte{7}, 63), "7e" + strings.Repeat("07", 63)},
	{bytes.Repeat([]byte{7}, 64), "8001" + strings.Repeat("07", 64)},
	{"", "00"},
	{"\x00", "02 00"},
	{"é", "04 c3 a9"},
	{"\xff\xfe", "04 ff fe"},
	{[]int{}, "00"},
	{[]int{0}, "02 00"},
	{[]int{0, 64, -65, 0}, "08 00 80 01 81 01 00"},
	{[]int{math.MaxInt64, math.MinInt64}, "04 fe ff ff ff ff ff ff ff ff 01 ff ff ff ff ff ff ff ff ff 01"},
}

// P5.1, P5.2: the examples of the chapter, and other encodings, in both directions.
func TestEncodings(t *testing.T) {
	for _, x := range encodings {
		b := fromHex(t, x.text)
		if got := encode(x.v); !bytes.Equal(got, b) {
			t.Errorf("%#v is encoded as %x, want %x", x.v, got, b)
		}
		r := NewReader(b)
		if got := read(r, methodOf(x.v)); !reflect.DeepEqual(got, x.v) {
			t.Errorf("%x is read as %#v, want %#v", b, got, x.v)
		}
		if e := r.Finish(); e != api.OK {
			t.Errorf("%x: Finish is %d", b, e)
		}
	}
}

// P5.1: nil slices are encoded like empty ones.
func TestNilSlices(t *testing.T) {
	if b := encode([]byte(nil), []int(nil)); !bytes.Equal(b, []byte{0, 0}) {
		t.Errorf("%x", b)
	}
}

// P5.1, P5.2: integers of each length.
func TestIntegers(t *testing.T) {
	l := integers()
	random := rand.New(rand.NewSource(1))
	for i := range 20000 {
		l = append(l, int64(random.Uint64())>>(i%64))
	}
	for _, n := range l {
		want := slowInt(n)
		if got := encode(n); !bytes.Equal(got, want) {
			t.Errorf("%d is encoded as %x, want %x", n, got, want)
		}
		r := NewReader(want)
		if got := r.Int(); got != n || r.Finish() != api.OK {
			t.Errorf("%x is read as %d, want %d; Finish is %d", want, got, n, r.Finish())
		}
	}
}

// P5.1: each method appends, and Encoded returns everything, as often as it is called.
func TestWriterAppends(t *testing.T) {
	random := rand.New(rand.NewSource(2))
	for range 2000 {
		var w Writer
		if b := w.Encoded(); len(b) != 0 {
			t.Fatalf("an empty Writer returns %x", b)
		}
		var want []byte
		l, _ := randomValues(random)
		for _, v := range l {
			write(&w, v)
			want = append(want, slow(v)...)
			for range 2 {
				if got := w.Encoded(); !bytes.Equal(got, want) {
					t.Fatalf("%#v: Encoded is %x, want %x", l, got, want)
				}
			}
		}
	}
}

// P5.1: two Writers share nothing.
func TestWritersAreIndependent(t *testing.T) {
	var v, w Writer
	v.String("one")
	w.Int(2)
	v.Bool(true)
	if !bytes.Equal(v.Encoded(), []byte("\x06one\x01")) || !bytes.Equal(w.Encoded(), []byte{4}) {
		t.Errorf("%x, %x", v.Encoded(), w.Encoded())
	}
}

// Results share no memory with arguments, with each other or with a Writer.
func TestWriterCopies(t *testing.T) {
	var w Writer
	b, l := []byte{1, 2, 3}, []int{4, 5}
	w.Bytes(b)
	w.Ints(l)
	want := []byte{6, 1, 2, 3, 4, 8, 10}
	clear(b)
	clear(l)
	first, second := w.Encoded(), w.Encoded()
	clear(first)
	_ = append(first[:0], 9, 9, 9, 9, 9, 9, 9, 9)
	if !bytes.Equal(second, want) || !bytes.Equal(w.Encoded(), want) {
		t.Errorf("%x, %x, want %x", second, w.Encoded(), want)
	}
	// What is written later does not appear in an earlier result, nor the other way round.
	_ = append(second, 77)
	w.Bool(true)
	w.Bool(false)
	if !bytes.Equal(second, want) || !bytes.Equal(w.Encoded(), append(want, 1, 0)) {
		t.Errorf("%x, %x", second, w.Encoded())
	}
	if !slices.Equal(b, []byte{0, 0, 0}) || !slices.Equal(l, []int{0, 0}) {
		t.Error("an argument was changed", b, l)
	}
}

// Results share no memory with the argument of NewReader, with each other or with a Reader.
func TestReaderCopies(t *testing.T) {
	b := encode([]byte("abc"), "def", []int{1, 2, 3}, []byte("ghi"))
	original := bytes.Clone(b)
	r, other := NewReader(b), NewReader(b)
	first := r.Bytes()
	clear(first)
	_ = append(first, 255, 255, 255, 255)
	if !bytes.Equal(b, original) {
		t.Fatalf("the argument has become %x", b)
	}
	clear(b)
	if s := r.String(); s != "def" {
		t.Errorf("the string is %q", s)
	}
	l := r.Ints()
	if !slices.Equal(l, []int{1, 2, 3}) {
		t.Errorf("the list is %v", l)
	}
	last := r.Bytes()
	clear(l)
	if !bytes.Equal(last, []byte("ghi")) || r.Finish() != api.OK {
		t.Errorf("the last bytes are %q; Finish is %d", last, r.Finish())
	}
	if got := readAll(other, "ysly"); !reflect.DeepEqual(got, []any{[]byte("abc"), "def", []int{1, 2, 3}, []byte("ghi")}) {
		t.Errorf("the other Reader returns %#v", got)
	}
}

// P5.2: each method advances past what it reads, and only so far.
func TestReaderAdvances(t *testing.T) {
	r := NewReader(fromHex(t, "80 01 01 04 61 62 00 04 02 01 06 78 79 7a 01"))
	for i, want := range []any{int64(64), true, "ab", false, []int{1, -1}, []byte("xyz")} {
		if got := read(r, methodOf(want)); !reflect.DeepEqual(got, want) {
			t.Errorf("value %d is %#v, want %#v", i, got, want)
		}
		if e := r.Finish(); e != api.ErrSyntax {
			t.Errorf("after value %d Finish is %d", i, e)
		}
	}
	if n, e := r.Int(), r.Finish(); n != -1 || e != api.OK {
		t.Errorf("the last value is %d; Finish is %d", n, e)
	}
}

// nine is the beginning of an integer of ten bytes.
const nine = "808080808080808080"

// P5.2: what is refused, and why.
func TestRefusals(t *testing.T) {
	for _, x := range []struct {
		methods, text string
		want          api.Errno
	}{
		{methods, "", api.ErrTruncated},

		// An integer.
		{"i", "80", api.ErrTruncated},
		{"i", "ff", api.ErrTruncated},
		{"i", "80 80", api.ErrTruncated},
		{"i", nine, api.ErrTruncated},
		{"i", "ff ff ff ff ff ff ff ff ff", api.ErrTruncated},
		{"i", "80 00", api.ErrSyntax},
		{"i", "81 00", api.ErrSyntax},
		{"i", "ff 00", api.ErrSyntax},
		{"i", "80 80 00", api.ErrSyntax},
		{"i", "80 00 80", api.ErrSyntax},
		{"i", "80 80 80 80 80 80 80 80 00", api.ErrSyntax},
		{"i", nine + "00", api.ErrSyntax},
		{"i", nine + "02", api.ErrSyntax},
		{"i", nine + "03", api.ErrSyntax},
		{"i", nine + "7f", api.ErrSyntax},
		{"i", nine + "80", api.ErrSyntax},
		{"i", nine + "81", api.ErrSyntax},
		{"i", nine + "81 00", api.ErrSyntax},
		{"i", nine + "81 01", api.ErrSyntax},
		{"i", nine + "ff", api.ErrSyntax},

		// A boolean.
		{"b", "02", api.ErrSyntax},
		{"b", "03", api.ErrSyntax},
		{"b", "7f", api.ErrSyntax},
		{"b", "80", api.ErrSyntax},
		{"b", "81", api.ErrSyntax},
		{"b", "ff", api.ErrSyntax},
		{"b", "80 00", api.ErrSyntax},

		// A length.
		{"ysl", "80", api.ErrTruncated},
		{"ysl", "80 00", api.ErrSyntax},
		{"ysl", nine + "02", api.ErrSyntax},
		{"ysl", "01", api.ErrSyntax},
		{"ysl", "01 00", api.ErrSyntax},
		{"ysl", "03 00 00 00", api.ErrSyntax},
		{"ysl", "7f", api.ErrSyntax},
		{"ysl", "ff ff ff ff ff ff ff ff ff 01", api.ErrSyntax},
		{"ysl", "02", api.ErrTruncated},
		{"ysl", "04 00", api.ErrTruncated},
		{"ysl", "06 00 00", api.ErrTruncated},
		{"ysl", "80 01 00", api.ErrTruncated},
		{"ysl", "80 01" + strings.Repeat("00", 63), api.ErrTruncated},
		{"ysl", "80 80 80 80 10", api.ErrTruncated},
		{"ysl", "80 80 80 80 20 00", api.ErrTruncated},
		{"ysl", nine + "01 00", api.ErrTruncated},
		{"ysl", "fe ff ff ff ff ff ff ff ff 01", api.ErrTruncated},
		{"ysl", "fe ff ff ff ff ff ff ff ff 01 00 00", api.ErrTruncated},

		// The elements of a list. A length that is too great comes before the errors of its elements.
		{"l", "02 80", api.ErrTruncated},
		{"l", "04 00 80", api.ErrTruncated},
		{"l", "04 80 80", api.ErrTruncated},
		{"l", "04 80 01", api.ErrTruncated},
		{"l", "04 80 00", api.ErrSyntax},
		{"l", "06 80 00", api.ErrTruncated},
		{"l", "06 00 80 00", api.ErrSyntax},
		{"l", "06 80 00 80", api.ErrSyntax},
		{"l", "06 80 01 80", api.ErrTruncated},
		{"l", "02" + nine + "02", api.ErrSyntax},
		{"l", "02" + nine, api.ErrTruncated},
	} {
		b := fromHex(t, x.text)
		for i := range len(x.methods) {
			method := x.methods[i]
			r := NewReader(b)
			if got := read(r, method); !reflect.DeepEqual(got, zero(method)) {
				t.Errorf("%x, %c: the value is %#v", b, method, got)
			}
			if e := r.Finish(); e != x.want {
				t.Errorf("%x, %c: Finish is %d, want %d", b, method, e, x.want)
			}
		}
	}
}

// P5.2: every value of the tenth byte, after nine bytes of any value.
func TestTenthByte(t *testing.T) {
	random := rand.New(rand.NewSource(3))
	for tenth := range 256 {
		for range 20 {
			b := make([]byte, 9, 12)
			random.Read(b)
			for i := range b {
				b[i] |= 128
			}
			b = append(b, byte(tenth))
			compare(t, b, "i")
			compare(t, append(b, 0), "ib")
			compare(t, append(b, 1), "i")
		}
	}
}

// P5.2: a length that equals the number of the bytes left is accepted; one more or less is not.
func TestLengthAndRest(t *testing.T) {
	for n := range 200 {
		for rest := max(0, n-2); rest < n+3; rest++ {
			b := append(slowInt(int64(n)), make([]byte, rest)...)
			for _, method := range "ysl" {
				r := NewReader(b)
				got := read(r, byte(method))
				want := api.OK
				switch {
				case rest < n:
					want = api.ErrTruncated
				case rest > n:
					want = api.ErrSyntax
				}
				if e := r.Finish(); e != want || rest >= n && reflect.ValueOf(got).Len() != n {
					t.Fatalf("length %d, %d bytes, %c: %#v, Finish is %d, want %d", n, rest, method, got, e, want)
				}
			}
		}
	}
}

// allStrings returns all byte strings of a length, made of bytes at which something changes.
func allStrings(length int) [][]byte {
	alphabet := []byte{0, 1, 2, 3, 4, 6, 127, 128, 129, 255}
	l := [][]byte{{}}
	for range length {
		var longer [][]byte
		for _, b := range l {
			for _, x := range alphabet {
				longer = append(longer, append(slices.Clip(b), x))
			}
		}
		l = longer
	}
	return l
}

// P5.2, P5.3: all short inputs, read by one method, by two and by three.
func TestShortInputs(t *testing.T) {
	var scripts []string
	for _, a := range methods {
		for _, b := range methods {
			scripts = append(scripts, string(a)+string(b))
		}
	}
	for length := range 5 {
		for _, b := range allStrings(length) {
			compare(t, b, "")
			for _, script := range scripts {
				compare(t, b, script)
				if length < 3 {
					compare(t, b, script+"i")
					compare(t, b, script+"y")
				}
			}
		}
	}
	for x := range 256 {
		for y := range 256 {
			for i := range len(methods) {
				compare(t, []byte{byte(x), byte(y)}, methods[i:i+1])
			}
		}
	}
}

// P5.2, P5.3: encodings with a changed, a removed or an inserted byte, and random bytes, read by any methods.
func TestDamagedInputs(t *testing.T) {
	random := rand.New(rand.NewSource(4))
	for range 50000 {
		l, script := randomValues(random)
		b := encode(l...)
		for range random.Intn(3) {
			i := random.Intn(len(b) + 1)
			switch {
			case random.Intn(3) == 0:
				b = slices.Insert(b, i, byte(random.Intn(256)))
			case i == len(b):
			case random.Intn(2) == 0:
				b = slices.Delete(b, i, i+1)
			default:
				b[i] ^= 1 << random.Intn(8)
			}
		}
		compare(t, b, script)
		compare(t, b, script+methods)
		other := []byte(script)
		random.Shuffle(len(other), func(i, j int) { other[i], other[j] = other[j], other[i] })
		compare(t, b, string(other))
		noise := make([]byte, random.Intn(20))
		random.Read(noise)
		compare(t, noise, script)
	}
}

// P5.3: after an error every method returns a zero value, whatever bytes are left, and the error stays.
func TestFirstErrorStays(t *testing.T) {
	valid := string(encode(int64(7), true, []byte("abc"), "def", []int{1, 2, 3}))
	for _, x := range []struct {
		method byte
		bad    string
		want   api.Errno
	}{
		{'i', "\x80\x00", api.ErrSyntax},
		{'b', "\x02", api.ErrSyntax},
		{'y', "\x01", api.ErrSyntax},
		{'s', "\x03", api.ErrSyntax},
		{'l', "\x01", api.ErrSyntax},
		{'l', "\x04\x80\x00", api.ErrSyntax},
		{'y', "\xfe\x7f", api.ErrTruncated},
		{'s', "\xfe\x7f", api.ErrTruncated},
		{'l', "\xfe\x7f", api.ErrTruncated},
	} {
		for i := range len(methods) {
			r := NewReader([]byte("\x02" + x.bad + valid))
			if n := r.Int(); n != 1 {
				t.Fatal(n)
			}
			script := string(x.method) + methods[i:] + methods[:i] + methods
			for j := range len(script) {
				if got := read(r, script[j]); !reflect.DeepEqual(got, zero(script[j])) {
					t.Errorf("%q, %s: value %d is %#v", x.bad, script, j, got)
				}
				if e := r.Finish(); e != x.want {
					t.Errorf("%q, %s: after value %d Finish is %d, want %d", x.bad, script, j, e, x.want)
				}
			}
		}
	}
}

// P5.3: Finish without an error.
func TestFinish(t *testing.T) {
	for _, b := range [][]byte{nil, {}} {
		r := NewReader(b)
		for range 3 {
			if e := r.Finish(); e != api.OK {
				t.Errorf("with no bytes Finish is %d", e)
			}
		}
		if n, e := r.Int(), r.Finish(); n != 0 || e != api.ErrTruncated {
			t.Errorf("beyond the end: %d, Finish is %d", n, e)
		}
	}
	// Calling Finish does not even end the reading: what is left can still be read.
	r := NewReader(encode(int64(5), "six", true))
	for i, want := range []any{int64(5), "six", true} {
		for range 3 {
			if e := r.Finish(); e != api.ErrSyntax {
				t.Errorf("before value %d Finish is %d", i, e)
			}
		}
		if got := read(r, methodOf(want)); got != want {
			t.Errorf("value %d is %#v, want %#v", i, got, want)
		}
	}
	for range 3 {
		if e := r.Finish(); e != api.OK {
			t.Errorf("at the end Finish is %d", e)
		}
	}
	if r.Bool() || r.Finish() != api.ErrTruncated || r.Finish() != api.ErrTruncated {
		t.Error("a read after Finish has not failed")
	}
}

// P5.4: values that were written are read again.
func TestRoundTrip(t *testing.T) {
	random := rand.New(rand.NewSource(5))
	for range 20000 {
		l, script := randomValues(random)
		r := NewReader(encode(l...))
		if got := readAll(r, script); !reflect.DeepEqual(got, l) {
			t.Fatalf("%#v is read as %#v", l, got)
		}
		if e := r.Finish(); e != api.OK {
			t.Fatalf("%#v: Finish is %d", l, e)
		}
	}
}

// P5.4: every proper prefix is too short, and every longer input too long.
func TestPrefixes(t *testing.T) {
	random := rand.New(rand.NewSource(6))
	check := func(l []any, script string) {
		b := encode(l...)
		for n := range len(b) {
			r := NewReader(b[:n])
			readAll(r, script)
			if e := r.Finish(); e != api.ErrTruncated {
				t.Fatalf("%x without the bytes from %d on, %s: Finish is %d", b, n, script, e)
			}
		}
		r := NewReader(append(b, byte(random.Intn(256))))
		readAll(r, script)
		if e := r.Finish(); e != api.ErrSyntax {
			t.Fatalf("%x with another byte, %s: Finish is %d", b, script, e)
		}
	}
	for _, x := range encodings {
		check([]any{x.v}, string(methodOf(x.v)))
	}
	for _, n := range integers() {
		check([]any{n}, "i")
	}
	for range 3000 {
		check(randomValues(random))
	}
}

// P5.4: an input that is read to its end without an error is the encoding of the values that were read.
func TestOnlyEncodingsAreRead(t *testing.T) {
	count := 0
	check := func(b []byte, script string) {
		r := NewReader(b)
		l := readAll(r, script)
		if r.Finish() != api.OK {
			return
		}
		count++
		if again := encode(l...); !bytes.Equal(again, b) {
			t.Fatalf("%x is read as %#v, which is encoded as %x", b, l, again)
		}
	}
	for length := range 5 {
		for _, b := range allStrings(length) {
			for _, x := range methods {
				check(b, string(x))
				for _, y := range methods {
					check(b, string(x)+string(y))
				}
			}
		}
	}
	random := rand.New(rand.NewSource(7))
	for range 200000 {
		b := make([]byte, random.Intn(14))
		for i := range b {
			// Mostly bytes that continue an integer, or a few small ones.
			b[i] = []byte{128, byte(128 + random.Intn(128)), byte(random.Intn(8)), byte(random.Intn(256))}[random.Intn(4)]
		}
		check(b, string(methods[random.Intn(len(methods))]))
	}
	if count < 10000 {
		t.Errorf("only %d inputs were read without an error", count)
	}
}

// P5.4: distinct values have distinct encodings.
func TestDistinctEncodings(t *testing.T) {
	seen := map[string]string{}
	check := func(v any) {
		name := fmt.Sprintf("%#v", v)
		key := string(methodOf(v)) + string(encode(v))
		if other, ok := seen[key]; ok && other != name {
			t.Fatalf("%s and %s have the same encoding", name, other)
		}
		seen[key] = name
	}
	check(false)
	check(true)
	for _, n := range integers() {
		check(n)
		check([]int{int(n)})
		check([]int{0, int(n)})
		check([]int{int(n), 0})
	}
	for length := range 4 {
		for _, b := range allStrings(length) {
			check(b)
			check(string(b))
			l := []int{}
			for _, x := range b {
				l = append(l, int(x))
			}
			check(l)
		}
	}
	random := rand.New(rand.NewSource(8))
	for range 20000 {
		check(randomValue(random))
	}
}

// Large values are read and written in a short time, and a length without its bytes is refused at once.
func TestLarge(t *testing.T) {
	start := time.Now()
	text := strings.Repeat("samaritan", 1<<17)
	list := make([]int, 1<<20)
	for i := range list {
		list[i] = i * 1000003
	}
	b := encode(text, []byte(text), list)
	r := NewReader(b)
	if r.String() != text || string(r.Bytes()) != text || !slices.Equal(r.Ints(), list) || r.Finish() != api.OK {
		t.Error("large values")
	}
	var w Writer
	for n := range int64(1 << 20) {
		w.Int(n)
	}
	r = NewReader(w.Encoded())
	for n := range int64(1 << 20) {
		if got := r.Int(); got != n {
			t.Fatal(got, n)
		}
	}
	if e := r.Finish(); e != api.OK {
		t.Error(e)
	}
	for _, n := range []int64{1 << 31, 1 << 40, 1 << 61, 1 << 62, math.MaxInt64} {
		for _, method := range "ysl" {
			compare(t, append(slowInt(n), make([]byte, 100)...), string(method))
		}
	}
	if took := time.Since(start); took > 20*time.Second {
		t.Error(took)
	}
}
