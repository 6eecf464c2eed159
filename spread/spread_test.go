package spread_test

import (
	"math"
	"slices"
	"testing"

	"gradine/api"
	"gradine/spread"
)

// withSpare is a copy of a list with capacity behind it that a function could overwrite.
func withSpare(a []int) []int {
	b := slices.Clone(a)
	for range 4 {
		b = append(b, 0x5ca1ab1e)
	}
	return b[:len(a)]
}

// overwrite changes a list up to its capacity.
func overwrite(a []int) {
	a = a[:cap(a)]
	for i := range a {
		a[i] = -77
	}
}

// farOut are numbers far from those of any element.
func farOut() []int {
	return []int{math.MinInt, math.MinInt + 1, -1 << 62, -1 << 32, -65536, -65, -64, 65, 4096, 65536, 1 << 31, 1 << 32, 1<<32 + 1, 1 << 62, math.MaxInt - 1, math.MaxInt}
}

// count is the product of dims that are small.
func count(d []int) int {
	n := 1
	for _, size := range d {
		n *= size
	}
	return n
}

// fault is the error of dims as chapter 19 defines it; their product is only taken where no dim is above 64.
func fault(d []int) api.Errno {
	switch {
	case len(d) > 6:
		return api.ErrRank
	case slices.ContainsFunc(d, func(n int) bool { return n < 1 }):
		return api.ErrShape
	case slices.ContainsFunc(d, func(n int) bool { return n > 64 }) || count(d) > 64:
		return api.ErrMany
	}
	return api.OK
}

// lists are all lists of n of some numbers.
func lists(n int, of ...int) [][]int {
	out := [][]int{{}}
	for range n {
		var longer [][]int
		for _, l := range out {
			for _, x := range of {
				longer = append(longer, append(slices.Clone(l), x))
			}
		}
		out = longer
	}
	return out
}

// someDims are valid dims of each length.
func someDims() [][]int {
	var out [][]int
	for n := range 4 {
		out = append(out, lists(n, 1, 2, 3)...)
	}
	for n := 4; n < 7; n++ {
		out = append(out, lists(n, 1, 2)...)
	}
	return append(out, []int{4}, []int{7}, []int{8}, []int{32}, []int{63}, []int{64}, []int{8, 8}, []int{8, 1}, []int{1, 8}, []int{9, 7}, []int{9, 1}, []int{1, 64},
		[]int{64, 1}, []int{1, 64, 1}, []int{4, 4, 4}, []int{4, 1, 4}, []int{2, 1, 3, 1, 5, 1}, []int{1, 2, 1, 3, 1, 5}, []int{1, 3, 1, 5}, []int{1, 1, 1, 1, 1, 64}, []int{64, 1, 1, 1, 1, 1})
}

// badDims are dims that are not valid, some for each of the three errors.
func badDims() [][]int {
	return [][]int{
		{0}, {-1}, {65}, {math.MinInt}, {math.MaxInt}, {8, 9}, {3, 0}, {0, 65}, {65, -1}, {2, 3, 11}, {1, 1, 1, 65}, {1 << 32, 1 << 32}, {1 << 62, 4},
		{math.MaxInt, math.MaxInt}, {2, 2, 2, 2, 2, 3}, {1, 1, 1, 1, 1, 0}, {1, 1, 1, 1, 1, 1, 1}, {0, 1, 1, 1, 1, 1, 1}, {65, 1, 1, 1, 1, 1, 1}, make([]int, 100),
	}
}

// aligned is dims with 1 for each axis that they do not have of n ones.
func aligned(d []int, n int) []int {
	return append(slices.Repeat([]int{1}, n-len(d)), d...)
}

// joined is what the document says of the broadcast dims of two, axis by axis.
func joined(a, b []int) ([]int, api.Errno) {
	for _, d := range [][]int{a, b} {
		if err := fault(d); err != api.OK {
			return nil, err
		}
	}
	n := max(len(a), len(b))
	a, b = aligned(a, n), aligned(b, n)
	var out []int
	for axis := range n {
		if a[axis] != b[axis] && a[axis] != 1 && b[axis] != 1 {
			return nil, api.ErrShape
		}
		out = append(out, max(a[axis], b[axis]))
	}
	if err := fault(out); err != api.OK {
		return nil, err
	}
	return out, api.OK
}

func wantDims(t *testing.T, what string, got []int, err api.Errno, want []int, wantErr api.Errno) {
	t.Helper()
	if !slices.Equal(got, want) || err != wantErr {
		t.Errorf("%s is %v, %v, want %v, %v", what, got, err, want, wantErr)
	}
}

// Promise 21.1: results that are written out.
func TestTwoWrittenOut(t *testing.T) {
	for _, c := range []struct {
		a, b, want []int
		err        api.Errno
	}{
		{[]int{2, 1}, []int{3}, []int{2, 3}, api.OK},
		{nil, nil, nil, api.OK},
		{nil, []int{}, nil, api.OK},
		{nil, []int{5}, []int{5}, api.OK},
		{nil, []int{2, 3, 4}, []int{2, 3, 4}, api.OK},
		{[]int{1}, []int{1}, []int{1}, api.OK},
		{[]int{1}, []int{5}, []int{5}, api.OK},
		{[]int{1}, []int{2, 3, 4}, []int{2, 3, 4}, api.OK},
		{[]int{5}, []int{5}, []int{5}, api.OK},
		{[]int{4}, []int{2, 3, 4}, []int{2, 3, 4}, api.OK},
		{[]int{3, 1}, []int{2, 1, 4}, []int{2, 3, 4}, api.OK},
		{[]int{2, 1, 1}, []int{3, 4}, []int{2, 3, 4}, api.OK},
		{[]int{2, 1, 1}, []int{1, 3, 1}, []int{2, 3, 1}, api.OK},
		{[]int{1, 1, 1, 1, 1, 1}, []int{7}, []int{1, 1, 1, 1, 1, 7}, api.OK},
		{[]int{1, 1, 1, 1, 1, 1}, nil, []int{1, 1, 1, 1, 1, 1}, api.OK},
		{[]int{2, 1, 2, 1, 2, 1}, []int{1, 2, 1, 2, 1, 2}, []int{2, 2, 2, 2, 2, 2}, api.OK},
		{[]int{8, 1}, []int{8}, []int{8, 8}, api.OK},
		{[]int{64}, []int{1, 1}, []int{1, 64}, api.OK},
		{[]int{2}, []int{3}, nil, api.ErrShape},
		{[]int{2, 3}, []int{2}, nil, api.ErrShape},
		{[]int{2, 3}, []int{3, 2}, nil, api.ErrShape},
		{[]int{2, 3, 4}, []int{2}, nil, api.ErrShape},
		{[]int{2, 3, 4}, []int{3, 1, 1}, nil, api.ErrShape},
		{[]int{2, 1, 1}, []int{3, 1}, []int{2, 3, 1}, api.OK},
		{[]int{64}, []int{63}, nil, api.ErrShape},
		{[]int{9, 1}, []int{8}, nil, api.ErrMany},
		{[]int{64, 1}, []int{64}, nil, api.ErrMany},
		{[]int{64, 1}, []int{2}, nil, api.ErrMany},
		{[]int{2, 1, 1}, []int{3, 11}, nil, api.ErrMany},
		{[]int{64, 1, 1}, []int{2, 64}, nil, api.ErrMany},
		{[]int{3, 64, 1, 1}, []int{64}, nil, api.ErrMany},
		{[]int{1, 2, 2, 2, 2, 2}, []int{3, 1, 1, 1, 1, 1}, nil, api.ErrMany},
		{[]int{33, 1, 2}, []int{2, 3}, nil, api.ErrMany},
		{[]int{32, 1, 2}, []int{2, 3}, nil, api.ErrShape},
		{[]int{0}, []int{0}, nil, api.ErrShape},
		{[]int{1, 1, 1, 1, 1, 1, 1}, []int{0}, nil, api.ErrRank},
		{[]int{0}, []int{1, 1, 1, 1, 1, 1, 1}, nil, api.ErrShape},
		{[]int{65}, []int{1, 1, 1, 1, 1, 1, 1}, nil, api.ErrMany},
		{[]int{1, 1, 1, 1, 1, 1, 1}, []int{65}, nil, api.ErrRank},
		{[]int{65}, []int{0}, nil, api.ErrMany},
		{[]int{0}, []int{65}, nil, api.ErrShape},
		{[]int{65}, []int{2}, nil, api.ErrMany},
		{[]int{2}, []int{65}, nil, api.ErrMany},
		{[]int{2}, []int{3, 1, 1, 1, 1, 1, 1}, nil, api.ErrRank},
		{[]int{3, 1, 1, 1, 1, 1, 2}, []int{3}, nil, api.ErrRank},
		{[]int{5}, []int{0}, nil, api.ErrShape},
		{[]int{1}, []int{0}, nil, api.ErrShape},
		{[]int{1}, []int{-1}, nil, api.ErrShape},
		{[]int{1}, []int{math.MaxInt}, nil, api.ErrMany},
		{[]int{math.MaxInt}, []int{1}, nil, api.ErrMany},
		{[]int{math.MinInt}, []int{1}, nil, api.ErrShape},
	} {
		got, err := spread.Two(c.a, c.b)
		wantDims(t, "Two", got, err, c.want, c.err)
	}
}

// Promises 21.1 and 21.3, and R2: two dims of all kinds; the error of the first is ahead, and otherwise their order does not matter.
func TestTwo(t *testing.T) {
	all := append(someDims(), badDims()...)
	for _, a := range all {
		for _, b := range all {
			want, wantErr := joined(a, b)
			got, err := spread.Two(a, b)
			if !slices.Equal(got, want) || err != wantErr {
				t.Errorf("Two(%v, %v) = %v, %v, want %v, %v", a, b, got, err, want, wantErr)
			}
			other, otherErr := spread.Two(b, a)
			if fault(a) != api.OK && fault(b) != api.OK {
				continue
			}
			if !slices.Equal(got, other) || err != otherErr {
				t.Errorf("Two(%v, %v) = %v, %v, and the other way round it is %v, %v", a, b, got, err, other, otherErr)
			}
		}
	}
}

// Promise 21.1: results that are written out.
func TestAllWrittenOut(t *testing.T) {
	for _, c := range []struct {
		l    [][]int
		want []int
		err  api.Errno
	}{
		{nil, nil, api.OK},
		{[][]int{}, nil, api.OK},
		{[][]int{nil}, nil, api.OK},
		{[][]int{{}, nil, {}}, nil, api.OK},
		{[][]int{{2, 3}}, []int{2, 3}, api.OK},
		{[][]int{{1, 1, 1, 1, 1, 1}}, []int{1, 1, 1, 1, 1, 1}, api.OK},
		{[][]int{{2, 1}, {3}}, []int{2, 3}, api.OK},
		{[][]int{{1}, {3}, {2, 1}}, []int{2, 3}, api.OK},
		{[][]int{{4}, {3, 1}, {2, 1, 1}}, []int{2, 3, 4}, api.OK},
		{[][]int{{2, 1, 1}, {3, 1}, {4}}, []int{2, 3, 4}, api.OK},
		{[][]int{{2, 1, 1}, {3, 1}, {4}, nil, {1}, {2, 3, 4}, {1, 1, 1, 1}}, []int{1, 2, 3, 4}, api.OK},
		{slices.Repeat([][]int{{1, 5}, {3, 1}}, 100), []int{3, 5}, api.OK},
		{[][]int{{65}}, nil, api.ErrMany},
		{[][]int{{0}}, nil, api.ErrShape},
		{[][]int{{1, 1, 1, 1, 1, 1, 1}}, nil, api.ErrRank},
		{[][]int{{2}, {3}, {65}}, nil, api.ErrShape},
		{[][]int{{2}, {65}, {3}}, nil, api.ErrMany},
		{[][]int{{2}, {1, 1, 1, 1, 1, 1, 1}, {0}, {65}}, nil, api.ErrRank},
		{[][]int{{65}, {1, 1, 1, 1, 1, 1, 1}}, nil, api.ErrMany},
		{[][]int{{2}, {1}, {3, 1}, {3}}, nil, api.ErrShape},
		{[][]int{{2}, {1}, {3}, {1, 1, 1, 1, 1, 1, 1}}, nil, api.ErrShape},
		{[][]int{{8, 1}, {9}, {0}}, nil, api.ErrMany},
		{[][]int{{8, 1}, {9}, {2}}, nil, api.ErrMany},
		{[][]int{{8, 1}, {2}, {9}}, nil, api.ErrShape},
		{[][]int{{4, 1, 1}, {4, 1}, {4}}, []int{4, 4, 4}, api.OK},
		{[][]int{{4, 1, 1}, {4, 1}, {5}}, nil, api.ErrMany},
		{[][]int{{4, 1, 1}, {4, 1}, {4}, {2, 1, 1, 1}}, nil, api.ErrMany},
	} {
		got, err := spread.All(c.l...)
		wantDims(t, "All", got, err, c.want, c.err)
	}
	got, err := spread.All()
	wantDims(t, "All of no dims", got, err, nil, api.OK)
}

// fold is what the document says of the broadcast dims of any number.
func fold(l [][]int) ([]int, api.Errno) {
	var out []int
	for _, d := range l {
		var err api.Errno
		if out, err = joined(out, d); err != api.OK {
			return nil, err
		}
	}
	return out, api.OK
}

// Promises 21.1 and 21.3, and R2: up to three dims of all kinds; each of them fits what All returns.
func TestAll(t *testing.T) {
	all := append(badDims(), lists(2, 1, 2, 3)...)
	all = append(all, nil, []int{1}, []int{2}, []int{8}, []int{9}, []int{8, 1}, []int{9, 1}, []int{64}, []int{64, 1}, []int{2, 1, 1}, []int{1, 1, 1, 1, 1, 1}, []int{2, 1, 2, 1, 2, 1})
	for _, a := range all {
		checkAll(t, [][]int{a})
		for _, b := range all {
			checkAll(t, [][]int{a, b})
			for _, c := range all {
				checkAll(t, [][]int{a, b, c})
			}
		}
	}
}

func checkAll(t *testing.T, l [][]int) {
	t.Helper()
	want, wantErr := fold(l)
	got, err := spread.All(l...)
	if !slices.Equal(got, want) || err != wantErr {
		t.Errorf("All of %v is %v, %v, want %v, %v", l, got, err, want, wantErr)
	}
	for _, d := range l {
		if err == api.OK && !spread.Fits(d, got) {
			t.Errorf("%v does not fit %v, the broadcast dims of %v", d, got, l)
		}
	}
}

// Promise 21.1: results that are written out.
func TestFitsWrittenOut(t *testing.T) {
	for _, c := range []struct {
		from, to []int
		want     bool
	}{
		{nil, nil, true},
		{nil, []int{}, true},
		{nil, []int{1}, true},
		{nil, []int{2, 3}, true},
		{[]int{1}, nil, false},
		{[]int{1}, []int{1}, true},
		{[]int{1}, []int{5}, true},
		{[]int{5}, []int{1}, false},
		{[]int{5}, []int{5}, true},
		{[]int{3}, []int{2, 3}, true},
		{[]int{2}, []int{2, 3}, false},
		{[]int{2, 1}, []int{2, 3}, true},
		{[]int{1, 3}, []int{2, 3}, true},
		{[]int{1, 1}, []int{2, 3}, true},
		{[]int{2, 3}, []int{2, 3}, true},
		{[]int{2, 3}, []int{3}, false},
		{[]int{1, 3}, []int{3}, false},
		{[]int{2, 3}, []int{2, 1}, false},
		{[]int{2, 1}, []int{1, 3}, false},
		{[]int{2, 1}, []int{3}, false},
		{[]int{2, 2}, []int{2, 3}, false},
		{[]int{1, 1, 1, 1, 1, 1}, []int{2, 2, 2, 2, 2, 2}, true},
		{[]int{2, 2, 2, 2, 2, 2}, []int{1, 1, 1, 1, 1, 1}, false},
		{[]int{1}, []int{65}, false},
		{[]int{65}, []int{65}, false},
		{[]int{0}, []int{0}, false},
		{[]int{0}, []int{1}, false},
		{[]int{1}, []int{0}, false},
		{[]int{-1}, []int{2}, false},
		{[]int{8}, []int{9, 8}, false},
		{nil, []int{9, 8}, false},
		{nil, []int{1, 1, 1, 1, 1, 1, 1}, false},
		{[]int{1, 1, 1, 1, 1, 1, 1}, []int{1, 1, 1, 1, 1, 1, 1}, false},
		{[]int{1, 1, 1, 1, 1, 1, 1}, nil, false},
	} {
		if got := spread.Fits(c.from, c.to); got != c.want {
			t.Errorf("Fits(%v, %v) = %v", c.from, c.to, got)
		}
	}
}

// Promises 21.1 and 21.3: two dims of all kinds; each of them fits the broadcast dims of both.
func TestFits(t *testing.T) {
	all := append(someDims(), badDims()...)
	for _, a := range all {
		for _, b := range all {
			joint, err := joined(a, b)
			if got, want := spread.Fits(a, b), err == api.OK && slices.Equal(joint, b); got != want {
				t.Errorf("Fits(%v, %v) = %v", a, b, got)
			}
			if two, err := spread.Two(a, b); err == api.OK && !(spread.Fits(a, two) && spread.Fits(b, two)) {
				t.Errorf("%v and %v do not both fit %v", a, b, two)
			}
		}
	}
}

// places are all places in order: under each number of the first axis, those of the other axes.
func places(d []int) [][]int {
	if len(d) == 0 {
		return [][]int{{}}
	}
	var out [][]int
	for i := range d[0] {
		for _, rest := range places(d[1:]) {
			out = append(out, append([]int{i}, rest...))
		}
	}
	return out
}

// standsFor reports whether the element of from at p is broadcast to the one at q.
func standsFor(from, p, q []int) bool {
	q = q[len(q)-len(p):]
	for axis, i := range p {
		if from[axis] != 1 && i != q[axis] {
			return false
		}
	}
	return true
}

// Promise 21.2: results that are written out.
func TestSourceWrittenOut(t *testing.T) {
	for _, c := range []struct {
		from, to []int
		want     []int
	}{
		{[]int{3}, []int{2, 3}, []int{0, 1, 2, 0, 1, 2}},
		{[]int{1, 3}, []int{2, 3}, []int{0, 1, 2, 0, 1, 2}},
		{[]int{2, 1}, []int{2, 3}, []int{0, 0, 0, 1, 1, 1}},
		{[]int{1, 1}, []int{2, 3}, []int{0, 0, 0, 0, 0, 0}},
		{[]int{1}, []int{2, 3}, []int{0, 0, 0, 0, 0, 0}},
		{nil, []int{2, 3}, []int{0, 0, 0, 0, 0, 0}},
		{[]int{2, 3}, []int{2, 3}, []int{0, 1, 2, 3, 4, 5}},
		{[]int{2}, []int{3, 2}, []int{0, 1, 0, 1, 0, 1}},
		{[]int{2, 1, 2}, []int{2, 2, 2}, []int{0, 1, 0, 1, 2, 3, 2, 3}},
		{[]int{2, 1}, []int{2, 2, 2}, []int{0, 0, 1, 1, 0, 0, 1, 1}},
		{[]int{1, 2, 2}, []int{2, 2, 2}, []int{0, 1, 2, 3, 0, 1, 2, 3}},
		{[]int{2, 1, 1}, []int{2, 1, 1}, []int{0, 1}},
		{[]int{1}, []int{1}, []int{0}},
		{nil, []int{1, 1, 1, 1, 1, 1}, []int{0}},
		{nil, nil, []int{0}},
	} {
		for n, want := range c.want {
			if got, ok := spread.Source(c.from, c.to, n); got != want || !ok {
				t.Errorf("Source(%v, %v, %d) = %d, %v, want %d", c.from, c.to, n, got, ok, want)
			}
		}
		noSource(t, c.from, c.to, append(farOut(), -2, -1, len(c.want), len(c.want)+1))
	}
}

// noSource checks that to none of some numbers an element is broadcast.
func noSource(t *testing.T, from, to, numbers []int) {
	t.Helper()
	for _, n := range numbers {
		if got, ok := spread.Source(from, to, n); got != 0 || ok {
			t.Errorf("Source(%v, %v, %d) = %d, %v", from, to, n, got, ok)
		}
	}
}

// Promises 21.2 and 21.4: to each element exactly one is broadcast, and each one equally often; where the dims do not fit there is none.
func TestSource(t *testing.T) {
	all := append(someDims(), badDims()...)
	for _, from := range all {
		for _, to := range all {
			joint, err := joined(from, to)
			if err != api.OK || !slices.Equal(joint, to) {
				noSource(t, from, to, []int{math.MinInt, -1, 0, 1, 63, 64, math.MaxInt})
				continue
			}
			checkSource(t, from, to)
			noSource(t, from, to, append(farOut(), -2, -1, count(to), count(to)+1))
		}
	}
}

func checkSource(t *testing.T, from, to []int) {
	t.Helper()
	elements := places(from)
	times := make([]int, len(elements))
	for n, q := range places(to) {
		got, ok := spread.Source(from, to, n)
		if !ok || got < 0 || got >= len(elements) {
			t.Errorf("Source(%v, %v, %d) = %d, %v", from, to, n, got, ok)
			return
		}
		times[got]++
		for m, p := range elements {
			if standsFor(from, p, q) != (m == got) {
				t.Errorf("Source(%v, %v, %d) = %d, at %v of %v", from, to, n, got, p, q)
			}
		}
	}
	for m, k := range times {
		if k*len(elements) != count(to) {
			t.Errorf("element %d of %v is broadcast to %d elements of %v", m, from, k, to)
		}
	}
}

// argumentPairs are two dims, compatible and not, fitting and not, valid and not.
func argumentPairs() [][2][]int {
	return [][2][]int{
		{{2, 1}, {3}}, {{3}, {2, 1}}, {{3}, {2, 3}}, {{2, 3}, {3}}, {{2, 3}, {2, 3}}, {{1, 1}, {2, 3}}, {{1, 1}, {1, 1}}, {{}, {2, 3}}, {{2, 3}, {}}, {{}, {}},
		{{1, 1, 1, 1, 1, 1}, {2, 2, 2, 2, 2, 2}}, {{2, 1, 3}, {4, 1}}, {{2}, {3}}, {{2}, {65}}, {{0}, {2}}, {{9, 1}, {8}}, {{1, 1, 1, 1, 1, 1, 1}, {1}},
	}
}

// results are the dims that calls return for two.
func results(a, b []int) [][]int {
	var out [][]int
	add := func(l []int, _ api.Errno) {
		out = append(out, l)
	}
	add(spread.Two(a, b))
	add(spread.Two(a, a))
	add(spread.All(a))
	add(spread.All(b))
	add(spread.All(a, b))
	add(spread.All(b, a))
	add(spread.All(a, a, a))
	return out
}

// copies are copies of lists.
func copies(l [][]int) [][]int {
	var out [][]int
	for _, a := range l {
		out = append(out, slices.Clone(a))
	}
	return out
}

func equalLists(a, b [][]int) bool {
	return slices.EqualFunc(a, b, slices.Equal[[]int])
}

// R4: no call changes its arguments, or the capacity behind them.
func TestArgumentsStay(t *testing.T) {
	for _, c := range argumentPairs() {
		a, b := withSpare(c[0]), withSpare(c[1])
		before := copies([][]int{a[:cap(a)], b[:cap(b)]})
		results(a, b)
		spread.Fits(a, b)
		for n := -1; n < 7; n++ {
			spread.Source(a, b, n)
		}
		if !equalLists(before, [][]int{a[:cap(a)], b[:cap(b)]}) {
			t.Errorf("%v and %v have changed to %v and %v", c[0], c[1], a, b)
		}
	}
}

// R4: All changes neither the list of its arguments nor what is behind it.
func TestListStays(t *testing.T) {
	for _, c := range argumentPairs() {
		l := make([][]int, 0, 4)
		l = append(l, withSpare(c[0]), withSpare(c[1]))
		spread.All(l...)
		if !equalLists(l, c[:]) || !equalLists(l[:4][2:], [][]int{nil, nil}) {
			t.Errorf("%v has changed to %v", c, l[:4])
		}
	}
}

// R4: results are new memory: they neither change with the arguments nor with each other, nor do the arguments with them.
func TestResultsApart(t *testing.T) {
	for _, c := range argumentPairs() {
		a, b := withSpare(c[0]), withSpare(c[1])
		first, second := results(a, b), results(a, b)
		want := copies(first)
		for _, l := range second {
			overwrite(l)
		}
		if !slices.Equal(a, c[0]) || !slices.Equal(b, c[1]) || !equalLists(first, want) {
			t.Errorf("for %v and %v results share memory", c[0], c[1])
		}
		overwrite(a)
		overwrite(b)
		if !equalLists(first, want) {
			t.Errorf("for %v and %v results change with the arguments", c[0], c[1])
		}
		for i, l := range first {
			overwrite(l)
			if !equalLists(first[i+1:], want[i+1:]) {
				t.Errorf("for %v and %v results share memory with each other", c[0], c[1])
			}
		}
	}
}
