package vault

import (
	"cmp"
	"slices"
	"strings"

	"winnower/api"
	"winnower/octet"
)

// sums is how many Sums there are.
const sums = 1 << 32

// extent is sectors that lie one behind the other.
type extent struct {
	begin, count int
}

// slots is the extent of the slots, which no blob may have.
func slots() extent {
	return extent{count: 2 * api.SlotSize}
}

// end is the sector behind it.
func (x extent) end() int {
	return x.begin + x.count
}

// mark says of each of its sectors that is in the list whose it is.
func (x extent) mark(list []string, whose string) {
	for i := x.begin; i < min(x.end(), len(list)); i++ {
		list[i] = whose
	}
}

// joined is rising sectors as extents.
func joined(sectors []int) []extent {
	var list []extent
	for _, i := range sectors {
		last := len(list) - 1
		if last >= 0 && list[last].end() == i {
			list[last].count++
		} else {
			list = append(list, extent{i, 1})
		}
	}
	return list
}

// said is what the directory says of a blob.
type said struct {
	length  int
	sum     int
	extents []extent
}

// sectors is where its data lie.
func (s *said) sectors() []int {
	var list []int
	for _, x := range s.extents {
		for k := range x.count {
			list = append(list, x.begin+k)
		}
	}
	return list
}

// right tells whether it may be said of a blob, if its extents lie where they may.
func (s *said) right() bool {
	room := 0
	for k, x := range s.extents {
		if k > 0 && x.begin <= s.extents[k-1].end() {
			return false
		}
		room += x.count
	}
	return s.length <= api.MaxBlob && s.sum < sums && room == Need(s.length)
}

// entry is a blob in the directory.
type entry struct {
	name string
	said
}

// compare holds its name against another one.
func (e entry) compare(name string) int {
	return strings.Compare(e.name, name)
}

// isName tells whether a text may be a blob's name.
func isName(s string) bool {
	if len(s) < 1 || len(s) > api.MaxName {
		return false
	}
	for _, c := range []byte(s) {
		if !('a' <= c && c <= 'z' || '0' <= c && c <= '9') {
			return false
		}
	}
	return true
}

// directory is the blobs by names, rising.
type directory []entry

// find is the entry of a name.
func (dir directory) find(name string) (entry, bool) {
	k, found := slices.BinarySearchFunc(dir, name, entry.compare)
	if !found {
		return entry{}, false
	}
	return dir[k], true
}

// behind is the directory behind a Commit: all that stay, and what was laid. The names that are gone or put rise.
func (dir directory) behind(named []string, laid directory) directory {
	next := slices.Clone(laid)
	for _, e := range dir {
		if _, found := slices.BinarySearch(named, e.name); !found {
			next = append(next, e)
		}
	}
	slices.SortFunc(next, func(a, b entry) int { return a.compare(b.name) })
	return next
}

// image is what a Super keeps of it.
func (dir directory) image() []byte {
	var w octet.Writer
	w.Nums(len(dir))
	for _, e := range dir {
		w.Bytes([]byte(e.name))
		w.Nums(e.length, e.sum, len(e.extents))
		for _, x := range e.extents {
			w.Nums(x.begin, x.count)
		}
	}
	return w.Out()
}

// fromImage is the directory of an image; false, if the image is none of a disk of so many sectors.
func fromImage(image []byte, size int) (directory, bool) {
	r := octet.NewReader(image)
	var dir directory
	// A count may be far above what is there: the first error ends it.
	for n := r.Num(); n > 0 && r.Good(); n-- {
		dir = append(dir, takeEntry(r))
	}
	// Extents that lie on the disk are small: only behind that they may be counted together.
	if !r.Whole() || !dir.named() || !dir.apart(size) {
		return nil, false
	}
	for _, e := range dir {
		if !e.right() {
			return nil, false
		}
	}
	return dir, true
}

// takeEntry takes one blob's entry.
func takeEntry(r *octet.Reader) entry {
	e := entry{name: string(r.Bytes())}
	r.Nums(&e.length, &e.sum)
	for n := r.Num(); n > 0 && r.Good(); n-- {
		var x extent
		r.Nums(&x.begin, &x.count)
		e.extents = append(e.extents, x)
	}
	return e
}

// named tells whether its names are such, and rise.
func (dir directory) named() bool {
	for k, e := range dir {
		if !isName(e.name) || k > 0 && dir[k-1].compare(e.name) >= 0 {
			return false
		}
	}
	return true
}

// apart tells whether its extents, of any blobs, have sectors, lie behind the slots, on a disk of so many sectors, and nowhere over one another.
func (dir directory) apart(size int) bool {
	all := []extent{slots()}
	for _, e := range dir {
		all = append(all, e.extents...)
	}
	slices.SortStableFunc(all, func(a, b extent) int { return cmp.Compare(a.begin, b.begin) })
	for k, x := range all {
		if k > 0 && x.begin < all[k-1].end() || x.count < 1 || x.count > size-x.begin {
			return false
		}
	}
	return true
}
