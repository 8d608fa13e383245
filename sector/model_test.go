package sector_test

import (
	"maps"
	"math/rand"
	"slices"
	"testing"

	"winnower/api"
	"winnower/sector"
)

// model is a disk in plain words: what each sector was at the last Flush or Crash, and all writes since, in their order.
type model struct {
	n      int
	base   map[int]string
	writes []entry
	fuse   int // below 0: none
}

type entry struct {
	at  int
	row string
}

// of is the versions of a sector, that of the last Flush ahead.
func (m *model) of(i int) []string {
	list := []string{m.base[i]}
	for _, w := range m.writes {
		if w.at == i {
			list = append(list, w.row)
		}
	}
	return list
}

func (m *model) waiting() []int {
	at := map[int]int{}
	for _, w := range m.writes {
		at[w.at]++
	}
	return slices.Sorted(maps.Keys(at))
}

func (m *model) write(i int, row string) api.Errno {
	if m.fuse == 0 {
		return api.ErrDead
	}
	if i < 0 || i >= m.n || len(row) > api.Sector {
		return api.ErrArg
	}
	m.writes = append(m.writes, entry{i, row})
	m.fuse--
	return api.OK
}

func (m *model) flush() api.Errno {
	if m.fuse == 0 {
		return api.ErrDead
	}
	for _, w := range m.writes {
		m.base[w.at] = w.row
	}
	m.writes = nil
	m.fuse--
	return api.OK
}

func (m *model) crash(picks []int) {
	for k, i := range m.waiting() {
		versions := m.of(i)
		if k < len(picks) && picks[k] > 0 {
			m.base[i] = versions[picks[k]%len(versions)]
		}
	}
	m.writes, m.fuse = nil, -1
}

func (m *model) copy() *model {
	return &model{m.n, maps.Clone(m.base), slices.Clone(m.writes), -1}
}

func (m *model) compare(t *testing.T, d *sector.Disk) {
	t.Helper()
	wantWaiting(t, d, m.waiting()...)
	for i := range m.n {
		versions := m.of(i)
		wantRead(t, d, i, []byte(versions[len(versions)-1])...)
	}
}

// step does one and the same to both, and answers the one to go on with: itself, or a copy.
func (m *model) step(t *testing.T, r *rand.Rand, d *sector.Disk) (*model, *sector.Disk) {
	t.Helper()
	switch k := r.Intn(40); {
	case k < 28:
		i, row := r.Intn(m.n+2)-1, make([]byte, r.Intn(api.Sector+3))
		r.Read(row)
		wantErr(t, "Write", d.Write(i, row...), m.write(i, string(row)))
	case k < 32:
		wantErr(t, "Flush", d.Flush(), m.flush())
	case k < 35:
		m.fuse = r.Intn(12) - 2
		d.Fuse(m.fuse)
	case k < 38:
		var picks []int
		for range r.Intn(m.n + 2) {
			picks = append(picks, r.Intn(12)-2)
		}
		d.Crash(picks...)
		m.crash(picks)
	default:
		other, twin := m.copy(), d.Copy()
		for range 5 {
			m, d = m.step(t, r, d)
		}
		other.compare(t, twin)
		return other, twin
	}
	m.compare(t, d)
	return m, d
}

// P2.1, P2.2, P2.3: many steps, each held against plain words.
func TestStepsTellWhatPlainWordsTell(t *testing.T) {
	for seed := range 60 {
		r := rand.New(rand.NewSource(int64(seed)))
		n := 1 + r.Intn(6)
		d, m := newDisk(t, n), &model{n, map[int]string{}, nil, -1}
		for range 300 {
			m, d = m.step(t, r, d)
		}
		if t.Failed() {
			t.Fatal("seed", seed)
		}
	}
}
