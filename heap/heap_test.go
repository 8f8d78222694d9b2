package heap

import (
	"cmp"
	"math"
	"math/rand"
	"slices"
	"strconv"
	"testing"
	"time"
)

// model is a heap as a map, searched from end to end for the minimum.
type model[K cmp.Ordered] map[int]K

func (m model[K]) min() (id int, key K, ok bool) {
	for i, k := range m {
		if !ok || k < key || k == key && i < id {
			id, key, ok = i, k, true
		}
	}
	return id, key, ok
}

func (m model[K]) pop() (int, K, bool) {
	id, key, ok := m.min()
	delete(m, id)
	return id, key, ok
}

func (m model[K]) remove(id int) bool {
	_, ok := m[id]
	delete(m, id)
	return ok
}

// check compares h with m, and looks up ids besides those of m.
func check[K cmp.Ordered](t *testing.T, h *Heap[K], m model[K], ids ...int) {
	t.Helper()
	if h.Len() != len(m) {
		t.Fatalf("Len is %d, not %d", h.Len(), len(m))
	}
	id, key, ok := h.Min()
	wantID, wantKey, wantOK := m.min()
	if id != wantID || key != wantKey || ok != wantOK {
		t.Fatalf("Min is %v %v %v, not %v %v %v", id, key, ok, wantID, wantKey, wantOK)
	}
	for id := range m {
		ids = append(ids, id)
	}
	for _, id := range ids {
		key, ok := h.Key(id)
		wantKey, wantOK := m[id]
		if key != wantKey || ok != wantOK {
			t.Fatalf("Key(%d) is %v %v, not %v %v", id, key, ok, wantKey, wantOK)
		}
	}
}

// checkPop compares one Pop of both.
func checkPop[K cmp.Ordered](t *testing.T, h *Heap[K], m model[K]) {
	t.Helper()
	id, key, ok := h.Pop()
	wantID, wantKey, wantOK := m.pop()
	if id != wantID || key != wantKey || ok != wantOK {
		t.Fatalf("Pop is %v %v %v, not %v %v %v", id, key, ok, wantID, wantKey, wantOK)
	}
}

// checkRemove compares one Remove of both.
func checkRemove[K cmp.Ordered](t *testing.T, h *Heap[K], m model[K], id int) {
	t.Helper()
	got, want := h.Remove(id), m.remove(id)
	if got != want {
		t.Fatalf("Remove(%d) is %v, not %v", id, got, want)
	}
}

// drain pops all, and returns the IDs.
func drain[K cmp.Ordered](h *Heap[K]) []int {
	var ids []int
	for h.Len() > 0 {
		id, _, _ := h.Pop()
		ids = append(ids, id)
	}
	return ids
}

// of returns a heap of the IDs from 0 on with the given keys.
func of[K cmp.Ordered](keys ...K) *Heap[K] {
	h := New[K]()
	for id, key := range keys {
		h.Put(id, key)
	}
	return h
}

func checkIDs(t *testing.T, got []int, want ...int) {
	t.Helper()
	if !slices.Equal(got, want) {
		t.Fatalf("the IDs are %v, not %v", got, want)
	}
}

// The example of the chapter.
func TestExample(t *testing.T) {
	h := New[int]()
	h.Put(5, 2)
	h.Put(9, 1)
	h.Put(7, 1)
	h.Put(5, 0)
	checkIDs(t, drain(h), 5, 7, 9)
}

// P3.1: an empty heap returns zero values and false.
func TestEmpty(t *testing.T) {
	none := model[int]{}
	emptied := of(3, 1, 2)
	drain(emptied)
	removed := of(4)
	removed.Remove(0)
	for _, h := range []*Heap[int]{New[int](), {}, emptied, removed} {
		check(t, h, none, 0, 1, -1, math.MaxInt, math.MinInt)
		checkPop(t, h, none)
		for _, id := range []int{0, 1, -1, math.MaxInt, math.MinInt} {
			checkRemove(t, h, none, id)
		}
		check(t, h, none, 0)
		h.Put(8, 9)
		check(t, h, model[int]{8: 9}, 0, 7)
	}
	texts := New[string]()
	if id, key, ok := texts.Min(); id != 0 || key != "" || ok {
		t.Fatal(id, key, ok)
	}
	if id, key, ok := texts.Pop(); id != 0 || key != "" || ok {
		t.Fatal(id, key, ok)
	}
	if key, ok := texts.Key(0); key != "" || ok {
		t.Fatal(key, ok)
	}
}

// P3.1: Put inserts an ID once, and afterwards sets its key, be it smaller, greater or the same.
func TestPut(t *testing.T) {
	h, m := New[int](), model[int]{}
	puts := [][2]int{{5, 20}, {9, 10}, {7, 10}, {5, 0}, {5, 30}, {9, 10}, {7, 50}, {9, 40}, {5, -1}, {7, -1}, {0, 0}, {-3, -1}}
	for _, p := range puts {
		h.Put(p[0], p[1])
		m[p[0]] = p[1]
		check(t, h, m, -1, 0, 1, 6, 10)
	}
	checkIDs(t, drain(h), -3, 5, 7, 0, 9)
}

// P3.1: Put moves an ID from each position to each other one.
func TestPutMoves(t *testing.T) {
	const n = 20
	for id := range n {
		for key := -1; key <= 10*n; key += 5 {
			h, m := New[int](), model[int]{}
			for i := range n {
				h.Put(i, 10*i)
				m[i] = 10 * i
			}
			h.Put(id, key)
			m[id] = key
			check(t, h, m)
			for range n + 1 {
				checkPop(t, h, m)
				check(t, h, m, id)
			}
		}
	}
}

// P3.1: Min changes nothing.
func TestMin(t *testing.T) {
	h := of(4, 2, 2)
	for range 3 {
		if id, key, ok := h.Min(); id != 1 || key != 2 || !ok {
			t.Fatal(id, key, ok)
		}
	}
	checkIDs(t, drain(h), 1, 2, 0)
}

// P3.1: Remove removes an ID from each position of each heap of up to six keys.
func TestRemove(t *testing.T) {
	for n := range 7 {
		count := 1
		for range n {
			count *= n
		}
		for code := range count {
			for id := range n {
				h, m := New[int](), model[int]{}
				for i, c := 0, code; i < n; i, c = i+1, c/n {
					h.Put(i, c%n)
					m[i] = c % n
				}
				checkRemove(t, h, m, n)
				checkRemove(t, h, m, -1)
				checkRemove(t, h, m, id)
				checkRemove(t, h, m, id)
				check(t, h, m, id, n, -1)
				for range n {
					checkPop(t, h, m)
				}
			}
		}
	}
}

// P3.1: an ID that was removed or popped can be put again, and then has the new key only.
func TestPutAgain(t *testing.T) {
	h := of(1, 2, 3)
	h.Remove(1)
	h.Put(1, 4)
	check(t, h, model[int]{0: 1, 1: 4, 2: 3})
	h.Pop()
	check(t, h, model[int]{1: 4, 2: 3}, 0)
	h.Put(0, 3)
	check(t, h, model[int]{0: 3, 1: 4, 2: 3})
	checkIDs(t, drain(h), 0, 2, 1)
}

// P3.1: heaps share nothing.
func TestIndependent(t *testing.T) {
	g, h := New[int](), New[int]()
	g.Put(1, 1)
	check(t, h, model[int]{}, 1)
	h.Put(1, 5)
	h.Put(2, 4)
	check(t, g, model[int]{1: 1}, 2)
	g.Remove(1)
	check(t, h, model[int]{1: 5, 2: 4})
}

// P3.1: any integer is an ID.
func TestIDs(t *testing.T) {
	ids := []int{math.MaxInt, 0, -1, math.MinInt, 1, math.MinInt + 1, math.MaxInt - 1, 1 << 32, -1 << 32}
	h, m := New[int8](), model[int8]{}
	for _, id := range ids {
		h.Put(id, 7)
		m[id] = 7
		check(t, h, m, 2, -2)
	}
	slices.Sort(ids)
	checkIDs(t, drain(h), ids...)
}

// kind is an ordered type of its own.
type kind uint8

// P3.1, P3.2: keys of every ordered type are compared with <.
func TestKeyTypes(t *testing.T) {
	checkIDs(t, drain(of(math.MaxInt, math.MinInt, 0, -1, 1)), 1, 3, 2, 4, 0)
	checkIDs(t, drain(of[int64](math.MaxInt64, math.MinInt64, 0)), 1, 2, 0)
	checkIDs(t, drain(of[int8](127, -128, 0, -1)), 1, 3, 2, 0)
	checkIDs(t, drain(of[uint64](math.MaxUint64, 1<<63, 0, 1)), 2, 3, 1, 0)
	checkIDs(t, drain(of[uint8](255, 128, 0, 127)), 2, 3, 1, 0)
	checkIDs(t, drain(of[kind](3, 1, 2, 1)), 1, 3, 2, 0)
	checkIDs(t, drain(of(math.Inf(1), 0.5, -0.5, math.Inf(-1), 0, math.MaxFloat64, math.SmallestNonzeroFloat64)), 3, 2, 4, 6, 1, 5, 0)
	checkIDs(t, drain(of[float32](1.5, 1.25, -3)), 2, 1, 0)
	checkIDs(t, drain(of("b", "", "ab", "a", "a\x00", "é", "z", "B", "10", "9")), 1, 8, 9, 7, 3, 4, 2, 0, 6, 5)
}

// P3.1: the zeros with and without a sign are equal as keys, and each ID keeps its own.
func TestZeros(t *testing.T) {
	minus := math.Copysign(0, -1)
	checkIDs(t, drain(of(0, minus, 0, minus)), 0, 1, 2, 3)
	h := of(minus, 0)
	h.Put(1, minus)
	h.Put(0, 0)
	if key, ok := h.Key(1); !ok || !math.Signbit(key) {
		t.Fatal(key, ok)
	}
	if id, key, ok := h.Pop(); id != 0 || math.Signbit(key) || !ok {
		t.Fatal(id, key, ok)
	}
}

// P3.1: keys that are not equal to themselves neither stop the program nor keep it from ending.
func TestNaN(t *testing.T) {
	random := rand.New(rand.NewSource(3))
	for range 200 {
		h := New[float64]()
		for range 100 {
			key := float64(random.Intn(5))
			if key == 0 {
				key = math.NaN()
			}
			h.Put(random.Intn(20), key)
			if random.Intn(3) == 0 {
				h.Remove(random.Intn(20))
			}
		}
		for range 25 {
			h.Min()
			h.Pop()
		}
	}
}

// compare does the same random steps with a heap and a model.
func compare[K cmp.Ordered](t *testing.T, random *rand.Rand, ids, steps int, key func() K) {
	t.Helper()
	h, m := New[K](), model[K]{}
	for range steps {
		id := random.Intn(ids) - ids/3
		switch random.Intn(8) {
		case 0:
			checkPop(t, h, m)
		case 1:
			checkRemove(t, h, m, id)
		default:
			k := key()
			h.Put(id, k)
			m[id] = k
		}
		check(t, h, m, id, ids)
	}
	for len(m) > 0 {
		checkPop(t, h, m)
	}
	check(t, h, m)
}

// P3.1, P3.2: long random sequences of all methods.
func TestRandom(t *testing.T) {
	random := rand.New(rand.NewSource(1))
	for round := range 60 {
		ids, keys := 1+random.Intn(70), 1+random.Intn(1+10*round)
		compare(t, random, ids, 300, func() int { return random.Intn(keys) - keys/2 })
		compare(t, random, ids, 300, func() string { return strconv.Itoa(random.Intn(keys)) })
		compare(t, random, ids, 300, func() float64 { return random.NormFloat64() })
	}
}

// P3.2: all IDs are popped in order, each once, whatever the order in which they were put.
func TestPopOrder(t *testing.T) {
	random := rand.New(rand.NewSource(2))
	for _, n := range []int{1, 2, 3, 4, 5, 8, 31, 32, 33, 1000} {
		for _, keys := range []int{1, 2, n, 1 << 40} {
			h := New[int]()
			key := map[int]int{}
			var want []int
			for _, id := range random.Perm(n) {
				key[id] = random.Intn(keys)
				h.Put(id, key[id])
				want = append(want, id)
			}
			slices.SortFunc(want, func(a, b int) int {
				return cmp.Or(cmp.Compare(key[a], key[b]), cmp.Compare(a, b))
			})
			checkIDs(t, drain(h), want...)
		}
	}
}

// P3.2: Put between calls to Pop.
func TestPutAndPop(t *testing.T) {
	h := of(3, 1)
	h.Pop()
	h.Put(2, 2)
	h.Put(3, 3)
	checkIDs(t, drain(h), 2, 0, 3)
}

// A large heap is not searched from end to end.
func TestLarge(t *testing.T) {
	start := time.Now()
	const n = 200000
	h := New[int]()
	for id := range n {
		h.Put(id, (id*7919)%n)
	}
	for id := range n {
		h.Put(id, n-1-(id*7919)%n)
	}
	for id := 0; id < n; id += 2 {
		h.Remove(id)
	}
	previous := -1
	for range n / 2 {
		id, key, ok := h.Pop()
		if !ok || id%2 == 0 || key <= previous || key != n-1-(id*7919)%n {
			t.Fatal(id, key, ok, previous)
		}
		previous = key
	}
	if h.Len() != 0 {
		t.Fatal(h.Len())
	}
	if took := time.Since(start); took > 20*time.Second {
		t.Fatal(took)
	}
}
