package tests

import (
	"fmt"
	"slices"
	"strings"
)

// The functions here tell maps by going the way from each number, by trying all other names, and by reading names, so that the tests share no method with the program.

const mostMapped = 60

// allMaps returns all maps of n numbers.
func allMaps(n int) [][]int {
	maps := [][]int{{}}
	for range n {
		var longer [][]int
		for _, next := range maps {
			for x := range n {
				longer = append(longer, append(slices.Clone(next), x))
			}
		}
		maps = longer
	}
	return maps
}

func smallMaps() [][]int {
	var maps [][]int
	for n := 1; n <= 5; n++ {
		maps = append(maps, allMaps(n)...)
	}
	return maps
}

func identity(n int) []int {
	names := make([]int, n)
	for x := range names {
		names[x] = x
	}
	return names
}

// circles returns the map whose cycles have given lengths, one behind the other.
func circles(lengths ...int) []int {
	var next []int
	for _, length := range lengths {
		first := len(next)
		for i := range length {
			next = append(next, first+(i+1)%length)
		}
	}
	return next
}

// withTail adds a tail of some numbers that leads to 0.
func withTail(next []int, length int) []int {
	long := slices.Clone(next)
	to := 0
	for range length {
		long = append(long, to)
		to = len(long) - 1
	}
	return long
}

// manyLengths has cycles whose lengths have a great least common multiple, 60060, and a tail of 17 numbers.
func manyLengths() []int { return withTail(circles(4, 3, 5, 7, 11, 13), 17) }

// greatMaps has maps of up to MaxMapped numbers: circles, tails, stars, and squares by remainders.
func greatMaps() [][]int {
	maps := [][]int{
		identity(60), circles(60), make([]int, 60), slices.Repeat([]int{59}, 60), withTail([]int{0}, 59),
		withTail(circles(30), 30), circles(30, 30), circles(20, 20, 20), circles(1, 59), circles(6, 10, 15, 14, 15),
		withTail(withTail(circles(7, 2, 7), 20), 24), manyLengths(),
	}
	for i := range 60 {
		n := 60 - i%30
		next := make([]int, n)
		for x := range next {
			next[x] = (x*x*(i%7+1) + x*(i%5) + i) % n
		}
		maps = append(maps, next)
	}
	return maps
}

func mapsToTry() [][]int { return append(smallMaps(), greatMaps()...) }

// wayOf goes from x up to the last number that was not there before, and returns these and how many of them come before the cycle.
func wayOf(next []int, x int) ([]int, int) {
	var way []int
	for !slices.Contains(way, x) {
		way = append(way, x)
		x = next[x]
	}
	return way, slices.Index(way, x)
}

func walk(next []int, x int, k int) int {
	way, tail := wayOf(next, x)
	if k < tail {
		return way[k]
	}
	return way[tail+(k-tail)%(len(way)-tail)]
}

func walkAll(next []int, k int) []int {
	ends := make([]int, len(next))
	for x := range next {
		ends[x] = walk(next, x, k)
	}
	return ends
}

func cyclesOf(next []int) [][]int {
	var cycles [][]int
	for x := range next {
		if way, tail := wayOf(next, x); tail == 0 && slices.Min(way) == x {
			cycles = append(cycles, way)
		}
	}
	return cycles
}

// firstRepeated makes one step of all numbers after the other, until all are where they were before, and returns when that was, and how long ago.
func firstRepeated(next []int) (int, int) {
	before := map[string]int{}
	at := identity(len(next))
	for k := 0; ; k++ {
		if s, ok := before[fmt.Sprint(at)]; ok {
			return s, k - s
		}
		before[fmt.Sprint(at)] = k
		for x := range at {
			at[x] = next[at[x]]
		}
	}
}

func countDifferent(numbers []int) int {
	return len(slices.Compact(slices.Sorted(slices.Values(numbers))))
}

func renamed(next []int, names []int) []int {
	other := make([]int, len(next))
	for x := range next {
		other[names[x]] = names[next[x]]
	}
	return other
}

// allNames returns all orders of the numbers 0..n - 1.
func allNames(n int) [][]int {
	orders := [][]int{{}}
	for x := range n {
		var longer [][]int
		for _, order := range orders {
			for at := range len(order) + 1 {
				longer = append(longer, slices.Insert(slices.Clone(order), at, x))
			}
		}
		orders = longer
	}
	return orders
}

// someNames returns a few orders of the numbers 0..n - 1: the other way round, turned, and by steps that go through all.
func someNames(n int) [][]int {
	reversed := identity(n)
	slices.Reverse(reversed)
	turned := append(identity(n)[n/2:], identity(n)[:n/2]...)
	mixed := identity(n)
	for i := range mixed {
		j := (i*i*7 + i*3 + 5) % n
		mixed[i], mixed[j] = mixed[j], mixed[i]
	}
	return [][]int{identity(n), reversed, turned, mixed}
}

// leastRenamed is the least map that other names make of a map: two maps are alike exactly if it is the same.
func leastRenamed(next []int, names [][]int) string {
	least := next
	for _, n := range names {
		if other := renamed(next, n); slices.Compare(other, least) < 0 {
			least = other
		}
	}
	return fmt.Sprint(least)
}

// kindsOf gives each number a kind: at first the length of its cycle and of its tail, and then, again and again, its kind, that of the number behind it and those of all before it. The table gives the same kinds to the numbers of other maps.
func kindsOf(next []int, table map[string]int) []int {
	kind := func(text string) int {
		if _, ok := table[text]; !ok {
			table[text] = len(table)
		}
		return table[text]
	}
	kinds := make([]int, len(next))
	for x := range next {
		way, tail := wayOf(next, x)
		kinds[x] = kind(fmt.Sprint("way ", len(way)-tail, tail))
	}
	for range 2 * mostMapped {
		before := make([][]int, len(next))
		for x, y := range next {
			before[y] = append(before[y], kinds[x])
		}
		finer := make([]int, len(next))
		for x, y := range next {
			slices.Sort(before[x])
			finer[x] = kind(fmt.Sprint(kinds[x], kinds[y], before[x]))
		}
		kinds = finer
	}
	slices.Sort(kinds)
	return kinds
}

// areAlike compares the kinds of all numbers, which tell maps apart as a way without an end tells its tree.
func areAlike(f []int, g []int) bool {
	table := map[string]int{}
	return slices.Equal(kindsOf(f, table), kindsOf(g, table))
}

// nameReader makes a map of a name, and looks whether the texts in it are in order.
type nameReader struct {
	text  string
	next  []int
	wrong bool
}

// readName returns the map that a name tells, with the numbers in the order of the name, and whether it is a name as it should be.
func readName(name string) ([]int, bool) {
	r := &nameReader{text: name}
	last := ""
	for len(r.text) > 0 && !r.wrong {
		cycle := r.cycle()
		r.wrong = r.wrong || cycle < last
		last = cycle
	}
	return r.next, !r.wrong
}

func (r *nameReader) take(letter string) {
	rest, ok := strings.CutPrefix(r.text, letter)
	r.text = rest
	r.wrong = r.wrong || !ok
}

func (r *nameReader) tree(to int) string {
	before, own, last := r.text, len(r.next), ""
	r.next = append(r.next, to)
	r.take("(")
	for strings.HasPrefix(r.text, "(") && !r.wrong {
		text := r.tree(own)
		r.wrong = r.wrong || text < last
		last = text
	}
	r.take(")")
	return before[:len(before)-len(r.text)]
}

func (r *nameReader) cycle() string {
	before := r.text
	var roots []int
	var texts []string
	r.take("[")
	for strings.HasPrefix(r.text, "(") && !r.wrong {
		roots = append(roots, len(r.next))
		texts = append(texts, r.tree(0))
	}
	r.take("]")
	r.wrong = r.wrong || len(roots) == 0
	for i, root := range roots {
		r.next[root] = roots[(i+1)%len(roots)]
		turned := slices.Concat(texts[i:], texts[:i])
		r.wrong = r.wrong || strings.Join(turned, "") < strings.Join(texts, "")
	}
	return before[:len(before)-len(r.text)]
}
