package rope

import "slices"

// run is some items, one behind the other.
type run[K comparable] struct {
	items []item[K]
	count int // how many of them are shown
}

type item[K comparable] struct {
	k     K
	shown bool
}

// index is the place of an item that is there.
func (x *run[K]) index(k K) int {
	return slices.IndexFunc(x.items, func(it item[K]) bool { return it.k == k })
}

// nth is the shown one with n shown ones ahead of it; there is one.
func (x *run[K]) nth(n int) K {
	i := slices.IndexFunc(x.items, func(it item[K]) bool {
		if it.shown {
			n--
		}
		return n < 0
	})
	return x.items[i].k
}

// insert puts an item in.
func (x *run[K]) insert(i int, k K, shown bool) {
	x.items = slices.Insert(x.items, i, item[K]{k: k})
	x.show(i, shown)
}

// show says whether an item is shown.
func (x *run[K]) show(i int, shown bool) {
	if x.items[i].shown == shown {
		return
	}
	x.items[i].shown = shown
	if shown {
		x.count++
	} else {
		x.count--
	}
}

// cutBehind leaves the first so many items, and answers the others as a run.
func (x *run[K]) cutBehind(n int) *run[K] {
	back := &run[K]{items: slices.Clone(x.items[n:])}
	back.count = countShown(back.items)
	x.items = slices.Delete(x.items, n, len(x.items))
	x.count -= back.count
	return back
}

// countShown is how many items are shown.
func countShown[K comparable](items []item[K]) int {
	n := 0
	for _, it := range items {
		if it.shown {
			n++
		}
	}
	return n
}
