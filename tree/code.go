package tree

import (
	"winnower/api"
	"winnower/octet"
)

// anyPart and textPart tell which kind of part comes.
const (
	textPart = 0
	anyPart  = 1
)

// Encode is it as bytes.
func (t *Tree) Encode() []byte {
	if t == nil {
		return nil
	}
	var w octet.Writer
	w.Nums(t.count())
	for _, template := range t.own {
		writeTemplate(&w, template)
	}
	w.Nums(len(t.rows))
	for _, l := range t.rows {
		w.Nums(l.count)
		w.Bytes([]byte(l.first), []byte(l.second))
		w.Nums(len(l.groups))
		w.Nums(l.groups...)
	}
	return w.Out()
}

func writeTemplate(w *octet.Writer, t api.Template) {
	w.Nums(len(t))
	for _, p := range t {
		if p.Any {
			w.Nums(anyPart)
			continue
		}
		w.Nums(textPart)
		w.Bytes([]byte(p.Text))
	}
}

// Decode is the way back.
func Decode(b []byte) (*Tree, api.Errno) {
	d := decoder{Reader: octet.NewReader(b)}
	for range d.within(1, api.MaxIDs) - 1 {
		d.made.add(d.template())
	}
	for range d.within(0, api.MaxLeaves) {
		d.leaf()
	}
	if !d.Whole() {
		return nil, api.ErrForm
	}
	// Not a pointer into d: that would keep b as long as the tree.
	made := d.made
	return &made, api.OK
}

// decoder takes a tree from bytes; where it meets what no tree has, it errs.
type decoder struct {
	*octet.Reader
	made Tree
	used [api.MaxIDs]bool // the templates that a group has
}

// within takes a number that lies within bounds; 0, if it errs.
func (d *decoder) within(low, high int) int {
	n := d.Num()
	if n < low || n > high {
		d.Bad()
		return 0
	}
	return n
}

// text takes a text of as many bytes as low at least.
func (d *decoder) text(low int) string {
	b := d.Bytes()
	if len(b) < low || len(b) > api.MaxLine {
		d.Bad()
	}
	return string(b)
}

func (d *decoder) template() api.Template {
	var t api.Template
	for range d.within(1, api.MaxParts) {
		p := api.Part{Any: d.within(textPart, anyPart) == anyPart}
		if !p.Any {
			p.Text = d.text(1)
		}
		t = append(t, p)
	}
	return t
}

func (d *decoder) leaf() {
	var k key
	k.count = d.Num()
	k.first = d.text(0)
	k.second = d.text(0)
	if d.made.find(k) != nil {
		d.Bad()
	}
	l := leaf{key: k}
	for range d.within(1, api.MaxGroups) {
		l.groups = append(l.groups, d.group(k.count))
	}
	d.made.grow(l)
}

// group takes the number of a template that no other group has, of so many parts.
func (d *decoder) group(parts int) int {
	id := d.within(1, d.made.count()-1)
	if d.used[id] || len(d.made.at(id)) != parts {
		d.Bad()
	}
	d.used[id] = true
	return id
}
