package cache_test

import (
	"math"
	"math/rand"
	"slices"
	"strconv"
	"testing"

	"pedigree/api"
	"pedigree/cache"
)

func num(n int64) api.Value { return api.Value{Kind: api.VInt, N: n} }

func sym(s string) api.Value { return api.Value{Kind: api.VSym, S: s} }

// page is a page of one entry for each number.
func page(ns ...int64) []api.Counted {
	var l []api.Counted
	for _, n := range ns {
		l = append(l, api.Counted{T: api.Tuple{num(n), sym("of " + strconv.FormatInt(n, 10))}, N: n})
	}
	return l
}

func key(name string, i int) api.PageKey { return api.PageKey{Run: name, Page: i} }

// keys are the pages 0 of files.
func keys(names ...string) []api.PageKey {
	var l []api.PageKey
	for _, name := range names {
		l = append(l, key(name, 0))
	}
	return l
}

func same(a, b []api.Counted) bool {
	return slices.EqualFunc(a, b, func(a, b api.Counted) bool { return a.N == b.N && slices.Equal(a.T, b.T) })
}

// made is a cache that New makes.
func made(t *testing.T, room int) *cache.Cache {
	t.Helper()
	c, e := cache.New(room)
	if c == nil || e != api.OK {
		t.Fatalf("New(%d): %v, %d", room, c, e)
	}
	return c
}

// holds tells if a cache has other keys, or counted otherwise.
func holds(t *testing.T, what string, c *cache.Cache, stats api.CacheStats, want ...api.PageKey) {
	t.Helper()
	if l := c.Keys(); !slices.Equal(l, want) {
		t.Errorf("%s: keys %v, want %v", what, l, want)
	}
	if s := c.Stats(); s != stats {
		t.Errorf("%s: stats %v, want %v", what, s, stats)
	}
}

// finds tells if Get answers another page.
func finds(t *testing.T, what string, c *cache.Cache, k api.PageKey, want []api.Counted) {
	t.Helper()
	if l, ok := c.Get(k); !ok || !same(l, want) {
		t.Errorf("%s: Get(%v): %v, %t, want %v", what, k, l, ok, want)
	}
}

// misses tells if Get answers a page.
func misses(t *testing.T, what string, c *cache.Cache, k api.PageKey) {
	t.Helper()
	if l, ok := c.Get(k); ok || len(l) != 0 {
		t.Errorf("%s: Get(%v): %v, %t", what, k, l, ok)
	}
}

func TestNew(t *testing.T) { // P8.1
	for _, room := range []int{0, 1, 2, 3, 100, api.MaxCache - 1, api.MaxCache} {
		c := made(t, room)
		if n := c.Room(); n != room {
			t.Errorf("Room: %d, want %d", n, room)
		}
		holds(t, "a new one", c, api.CacheStats{})
	}
	for _, room := range []int{-1, -2, api.MaxCache + 1, api.MaxCache + 2, -api.MaxCache, 1 << 32, math.MaxInt, math.MinInt} {
		if c, e := cache.New(room); c != nil || e != api.ErrCache {
			t.Errorf("New(%d): %v, %d", room, c, e)
		}
	}
}

// TestOwn: each cache has pages of its own.
func TestOwn(t *testing.T) { // P8.1
	c, d := made(t, 2), made(t, 2)
	c.Put(key("a", 0), page(1))
	holds(t, "the other", d, api.CacheStats{})
	d.Put(key("a", 0), page(2))
	misses(t, "the other", d, key("b", 0))
	holds(t, "the one", c, api.CacheStats{}, keys("a")...)
	finds(t, "the one", c, key("a", 0), page(1))
	finds(t, "the other", d, key("a", 0), page(2))
	if n := c.Drop("a"); n != 1 {
		t.Errorf("Drop: %d", n)
	}
	holds(t, "the other", d, api.CacheStats{Hits: 1, Misses: 1}, keys("a")...)
}

// TestKeys is the document's example.
func TestKeys(t *testing.T) { // P8.1
	c := made(t, 2)
	c.Put(key("a", 0), page(1))
	holds(t, "a", c, api.CacheStats{}, keys("a")...)
	c.Put(key("b", 0), page(2))
	holds(t, "b", c, api.CacheStats{}, keys("b", "a")...)
	finds(t, "a", c, key("a", 0), page(1))
	holds(t, "a again", c, api.CacheStats{Hits: 1}, keys("a", "b")...)
	c.Put(key("c", 0), page(3))
	holds(t, "c", c, api.CacheStats{Hits: 1, Gone: 1}, keys("c", "a")...)
	if n := c.Room(); n != 2 {
		t.Errorf("Room: %d", n)
	}
}

// blank tells if a cache is other than none.
func blank(t *testing.T, what string, c *cache.Cache) {
	t.Helper()
	c.Put(key("a", 0), page(1))
	misses(t, what, c, key("a", 0))
	holds(t, what, c, api.CacheStats{})
	if n, room := c.Drop("a"), c.Room(); n != 0 || room != 0 {
		t.Errorf("%s: Drop %d, Room %d", what, n, room)
	}
}

func TestNotMade(t *testing.T) { // P8.1, P8.2, with the rule on objects
	blank(t, "nil", nil)
	blank(t, "a struct", new(cache.Cache))
	c := made(t, 3)
	c.Put(key("a", 0), page(1))
	copied := *c
	blank(t, "a copy", &copied)
	holds(t, "the original", c, api.CacheStats{}, keys("a")...)
	finds(t, "the original", c, key("a", 0), page(1))
}

func TestGet(t *testing.T) { // P8.2
	c := made(t, 3)
	misses(t, "a new one", c, key("a", 0))
	holds(t, "a new one", c, api.CacheStats{Misses: 1})
	for i, name := range []string{"a", "b", "c"} {
		c.Put(key(name, 0), page(int64(i)))
	}
	finds(t, "the first", c, key("c", 0), page(2))
	holds(t, "the first", c, api.CacheStats{Hits: 1, Misses: 1}, keys("c", "b", "a")...)
	finds(t, "the one within", c, key("b", 0), page(1))
	holds(t, "the one within", c, api.CacheStats{Hits: 2, Misses: 1}, keys("b", "c", "a")...)
	finds(t, "the last", c, key("a", 0), page(0))
	holds(t, "the last", c, api.CacheStats{Hits: 3, Misses: 1}, keys("a", "b", "c")...)
	for _, k := range []api.PageKey{key("a", 1), key("a", -1), key("", 0), key("A", 0), key("a ", 0), key("ab", 0), key("d", 0), {}} {
		misses(t, "others", c, k)
	}
	holds(t, "others", c, api.CacheStats{Hits: 3, Misses: 9}, keys("a", "b", "c")...)
}

func TestPut(t *testing.T) { // P8.2, P8.5
	c := made(t, 3)
	for i, name := range []string{"a", "b", "c"} {
		c.Put(key(name, 0), page(int64(i)))
	}
	c.Put(key("b", 0), page(7, 8))
	holds(t, "within, again", c, api.CacheStats{}, keys("b", "c", "a")...)
	c.Put(key("b", 0), page(9))
	holds(t, "the first, again", c, api.CacheStats{}, keys("b", "c", "a")...)
	c.Put(key("a", 0), page(5))
	holds(t, "the last, again", c, api.CacheStats{}, keys("a", "b", "c")...)
	c.Put(key("d", 0), page(6))
	holds(t, "one more", c, api.CacheStats{Gone: 1}, keys("d", "a", "b")...)
	finds(t, "the newest", c, key("b", 0), page(9))
	finds(t, "the newest", c, key("a", 0), page(5))
	finds(t, "the newest", c, key("d", 0), page(6))
	misses(t, "the one that went", c, key("c", 0))
	c.Put(key("c", 0), page(4))
	holds(t, "back again", c, api.CacheStats{Hits: 3, Misses: 1, Gone: 2}, keys("c", "d", "a")...)
	finds(t, "back again", c, key("c", 0), page(4))
}

// TestPutNothing: a page without entries is one.
func TestPutNothing(t *testing.T) { // P8.2
	c := made(t, 2)
	c.Put(key("a", 0), nil)
	c.Put(key("b", 0), []api.Counted{})
	holds(t, "two of them", c, api.CacheStats{}, keys("b", "a")...)
	finds(t, "nil", c, key("a", 0), nil)
	finds(t, "empty", c, key("b", 0), nil)
	c.Put(key("b", 0), page(1))
	finds(t, "entries in its place", c, key("b", 0), page(1))
	c.Put(key("b", 0), nil)
	finds(t, "none in their place", c, key("b", 0), nil)
	c.Put(api.PageKey{}, page(2))
	finds(t, "the key of zero values", c, api.PageKey{}, page(2))
	holds(t, "the key of zero values", c, api.CacheStats{Hits: 5, Gone: 1}, api.PageKey{}, key("b", 0))
}

// TestPutAny: what a page holds is not asked.
func TestPutAny(t *testing.T) { // P8.2
	c := made(t, 4)
	for what, l := range map[string][]api.Counted{
		"counts of 0":    {{T: api.Tuple{num(1)}}, {T: api.Tuple{num(2)}}},
		"falling":        page(3, 2, 1),
		"alike":          page(1, 1),
		"no tuples":      {{N: 1}, {N: 2}},
		"no valid value": {{T: api.Tuple{{Kind: 77, N: 5, S: "both"}}, N: math.MinInt64}},
		"many values":    {{T: slices.Repeat(api.Tuple{num(1)}, 100), N: math.MaxInt64}},
		"many entries":   slices.Repeat(page(1), 1000),
	} {
		c.Put(key(what, -5), l)
		finds(t, what, c, key(what, -5), l)
	}
}

func TestNoRoom(t *testing.T) { // P8.2, P8.5
	c := made(t, 0)
	for range 3 {
		c.Put(key("a", 0), page(1))
		c.Put(key("b", 0), nil)
	}
	holds(t, "no room", c, api.CacheStats{})
	misses(t, "no room", c, key("a", 0))
	misses(t, "no room", c, key("b", 0))
	if n := c.Drop("a"); n != 0 {
		t.Errorf("Drop: %d", n)
	}
	holds(t, "no room", c, api.CacheStats{Misses: 2})
}

func TestRoomForOne(t *testing.T) { // P8.2, P8.5, P8.6
	c := made(t, 1)
	c.Put(key("a", 0), page(1))
	c.Put(key("a", 0), page(2))
	holds(t, "the same", c, api.CacheStats{}, keys("a")...)
	finds(t, "the same", c, key("a", 0), page(2))
	c.Put(key("b", 0), page(3))
	holds(t, "another", c, api.CacheStats{Hits: 1, Gone: 1}, keys("b")...)
	misses(t, "another", c, key("a", 0))
	finds(t, "another", c, key("b", 0), page(3))
	if n := c.Drop("b"); n != 1 {
		t.Errorf("Drop: %d", n)
	}
	c.Put(key("a", 0), page(4))
	holds(t, "behind a Drop", c, api.CacheStats{Hits: 2, Misses: 1, Gone: 1}, keys("a")...)
}

func TestMostRoom(t *testing.T) { // P8.2, P8.5, P8.6
	c := made(t, api.MaxCache)
	var want []api.PageKey
	for i := range api.MaxCache {
		c.Put(key("a", i), page(int64(i)))
		want = append(want, key("a", api.MaxCache-1-i))
	}
	holds(t, "full", c, api.CacheStats{}, want...)
	c.Put(key("a", api.MaxCache), page(5))
	want = slices.Insert(want[:api.MaxCache-1], 0, key("a", api.MaxCache))
	holds(t, "one more", c, api.CacheStats{Gone: 1}, want...)
	misses(t, "the last", c, key("a", 0))
	for i := 1; i < api.MaxCache; i++ {
		finds(t, "one of all", c, key("a", i), page(int64(i)))
	}
	if n := c.Drop("a"); n != api.MaxCache {
		t.Errorf("Drop: %d", n)
	}
	holds(t, "dropped", c, api.CacheStats{Hits: api.MaxCache - 1, Misses: 1, Gone: 1})
}

// TestPages: one file's pages, and pages of the same number, are different pages.
func TestPages(t *testing.T) { // P8.2
	c := made(t, 10)
	all := []api.PageKey{key("a", 0), key("a", 1), key("b", 0), key("b", 1), key("", 0), key("a", -1), key("a0", 1), key("a", 1<<32), key("aa", 0)}
	for i, k := range all {
		c.Put(k, page(int64(i)))
	}
	for i, k := range all {
		finds(t, "many", c, k, page(int64(i)))
	}
	slices.Reverse(all)
	holds(t, "many", c, api.CacheStats{Hits: len(all)}, all...)
}

// drops tells if Drop answers another number.
func drops(t *testing.T, c *cache.Cache, name string, want int) {
	t.Helper()
	if n := c.Drop(name); n != want {
		t.Errorf("Drop(%q): %d, want %d", name, n, want)
	}
}

func TestDrop(t *testing.T) { // P8.2
	c := made(t, 6)
	drops(t, c, "a", 0)
	holds(t, "a new one", c, api.CacheStats{})
	for i := range 3 {
		c.Put(key("a", i), page(1))
		c.Put(key("b", i), page(2))
	}
	left := []api.PageKey{key("b", 2), key("b", 1), key("b", 0)}
	for _, name := range []string{"", "A", "ab", "c", "a\x00"} {
		drops(t, c, name, 0)
	}
	drops(t, c, "a", 3)
	holds(t, "a file of two", c, api.CacheStats{}, left...)
	drops(t, c, "a", 0)
	misses(t, "a page that was dropped", c, key("a", 1))
	finds(t, "a page that was not", c, key("b", 2), page(2))
	drops(t, c, "b", 3)
	holds(t, "both", c, api.CacheStats{Hits: 1, Misses: 1})
	misses(t, "both", c, key("b", 2))
	for i := range 7 {
		c.Put(key("b", i), page(3))
	}
	holds(t, "Puts behind it", c, api.CacheStats{Hits: 1, Misses: 2, Gone: 1}, key("b", 6), key("b", 5), key("b", 4), key("b", 3), key("b", 2), key("b", 1))
	drops(t, c, "b", 6)
	holds(t, "a file that has all", c, api.CacheStats{Hits: 1, Misses: 2, Gone: 1})
}

// TestDropPlaces: a file's pages are first, last, beside one another, or not, and the others keep their order.
func TestDropPlaces(t *testing.T) { // P8.2, P8.6
	const n = 6
	for bits := range 1 << n {
		c := made(t, n)
		var left []api.PageKey
		for i := range n {
			k := key("stays", i)
			if bits>>i&1 == 1 {
				k = key("goes", i)
			} else {
				left = slices.Insert(left, 0, k)
			}
			c.Put(k, page(int64(i)))
		}
		drops(t, c, "goes", n-len(left))
		holds(t, "left", c, api.CacheStats{}, left...)
		for i := range n + 1 {
			c.Put(key("later", i), page(int64(i)))
		}
		if s := c.Stats(); s.Gone != len(left)+1 || len(c.Keys()) != n {
			t.Errorf("%b: %v, %v", bits, s, c.Keys())
		}
	}
}

// spoil writes into all memory of a page.
func spoil(l []api.Counted) {
	l = l[:cap(l)]
	for i := range l {
		row := l[i].T[:cap(l[i].T)]
		for j := range row {
			row[j] = sym("spoilt")
		}
		l[i] = api.Counted{T: api.Tuple{sym("spoilt")}, N: -99}
	}
}

func TestCopies(t *testing.T) { // P8.2, with the rule on memory
	c := made(t, 3)
	k := key("a", 0)
	handed := page(1, 2, 3)
	c.Put(k, handed)
	if !same(handed, page(1, 2, 3)) {
		t.Errorf("Put wrote into its argument: %v", handed)
	}
	spoil(handed)
	first, _ := c.Get(k)
	if !same(first, page(1, 2, 3)) {
		t.Fatalf("what was handed in is kept: %v", first)
	}
	second, _ := c.Get(k)
	spoil(first)
	if !same(second, page(1, 2, 3)) {
		t.Errorf("two answers share memory: %v", second)
	}
	spoil(second)
	finds(t, "what was returned is kept", c, k, page(1, 2, 3))
	again := page(4)
	c.Put(k, again)
	spoil(again)
	finds(t, "what was handed in again is kept", c, k, page(4))
	c.Put(key("b", 0), page(5))
	l := c.Keys()
	for i := range l[:cap(l)] {
		l[:cap(l)][i] = key("spoilt", 9)
	}
	holds(t, "keys", c, api.CacheStats{Hits: 4}, keys("b", "a")...)
}

// TestCopiesWithin: entries that share memory with one another, handed in, share none in what is kept and answered.
func TestCopiesWithin(t *testing.T) { // P8.2, with the rule on memory
	c := made(t, 2)
	values := api.Tuple{num(1), num(2), num(3)}
	c.Put(key("a", 0), []api.Counted{{T: values[:1], N: 1}, {T: values[:2], N: 1}, {T: values, N: 1}})
	l, _ := c.Get(key("a", 0))
	l[0].T = append(l[0].T, num(9))
	l[1].T[0] = num(8)
	if l[1].T[1] != num(2) || l[2].T[0] != num(1) || l[2].T[1] != num(2) {
		t.Errorf("tuples of one answer share memory: %v", l)
	}
	finds(t, "what was handed in", c, key("a", 0), []api.Counted{{T: values[:1], N: 1}, {T: values[:2], N: 1}, {T: values, N: 1}})
}

// kept is a page that plain has.
type kept struct {
	key  api.PageKey
	page []api.Counted
}

// plain is the document's cache as a list, the most recent page first.
type plain struct {
	room  int
	pages []kept
	stats api.CacheStats
}

func (p *plain) place(k api.PageKey) int {
	return slices.IndexFunc(p.pages, func(x kept) bool { return x.key == k })
}

func (p *plain) get(k api.PageKey) ([]api.Counted, bool) {
	i := p.place(k)
	if i < 0 {
		p.stats.Misses++
		return nil, false
	}
	p.stats.Hits++
	x := p.pages[i]
	p.pages = slices.Insert(slices.Delete(p.pages, i, i+1), 0, x)
	return x.page, true
}

func (p *plain) put(k api.PageKey, page []api.Counted) {
	if p.room == 0 {
		return
	}
	if i := p.place(k); i >= 0 {
		p.pages = slices.Delete(p.pages, i, i+1)
	}
	p.pages = slices.Insert(p.pages, 0, kept{k, page})
	if len(p.pages) > p.room {
		p.pages = p.pages[:p.room]
		p.stats.Gone++
	}
}

func (p *plain) drop(name string) int {
	before := len(p.pages)
	p.pages = slices.DeleteFunc(p.pages, func(x kept) bool { return x.key.Run == name })
	return before - len(p.pages)
}

func (p *plain) keys() []api.PageKey {
	var l []api.PageKey
	for _, x := range p.pages {
		l = append(l, x.key)
	}
	return l
}

// latest are the keys most recently used, as many as there is room for: uses are the keys found or put, each as often as it was.
func latest(uses []api.PageKey, room int) []api.PageKey {
	var l []api.PageKey
	for _, k := range slices.Backward(uses) {
		if len(l) < room && !slices.Contains(l, k) {
			l = append(l, k)
		}
	}
	return l
}

// TestDrawn holds drawn calls against plain, and the keys against all uses.
func TestDrawn(t *testing.T) { // P8.1, P8.2, P8.5, P8.6
	r := rand.New(rand.NewSource(8))
	for range 300 {
		room := r.Intn(9)
		c, p := made(t, room), &plain{room: room}
		var uses []api.PageKey
		for range 200 {
			k := key(string(rune('a'+r.Intn(3))), r.Intn(4))
			switch n := r.Intn(40); {
			case n == 0:
				drops(t, c, k.Run, p.drop(k.Run))
				uses = p.keys() // from here on, those that are left
				slices.Reverse(uses)
			case n < 20:
				l := page([]int64{r.Int63(), r.Int63(), r.Int63()}[:r.Intn(4)]...)
				c.Put(k, l)
				p.put(k, l)
				uses = append(uses, k)
			default:
				l, ok := c.Get(k)
				want, there := p.get(k)
				if ok != there || !same(l, want) {
					t.Fatalf("Get(%v): %v, %t, want %v, %t", k, l, ok, want, there)
				}
				if ok {
					uses = append(uses, k)
				}
			}
			holds(t, "drawn", c, p.stats, p.keys()...)
			if want := latest(uses, room); !slices.Equal(c.Keys(), want) {
				t.Fatalf("keys %v, want %v", c.Keys(), want)
			}
		}
		for _, x := range p.pages {
			finds(t, "at the end", c, x.key, x.page)
		}
		if t.Failed() {
			return
		}
	}
}
