package shell

import (
	"gnomon/api"
	"gnomon/dbm"
	"gnomon/extra"
	"gnomon/ops"
	"gnomon/point"
)

// zoneOf is the zone that an order names first.
func (s *shell) zoneOf(o order) *dbm.Zone { return s.zones[o.names[0]] }

// put puts a zone in the place of an order's name, if a call has made one.
func (s *shell) put(o order) func(*dbm.Zone, api.Errno) string {
	return func(z *dbm.Zone, err api.Errno) string {
		if err != api.OK {
			return failed(err)
		}
		s.zones[o.names[0]] = z
		return line(okWord)
	}
}

func (s *shell) universe(o order) string { return s.put(o)(dbm.Universe(o.numbers[0])) }

func (s *shell) zero(o order) string { return s.put(o)(dbm.Zero(o.numbers[0])) }

func (s *shell) up(o order) string { return s.put(o)(ops.Up(s.zoneOf(o))) }

func (s *shell) down(o order) string { return s.put(o)(ops.Down(s.zoneOf(o))) }

func (s *shell) reset(o order) string {
	return s.put(o)(ops.Reset(s.zoneOf(o), o.numbers[0], o.numbers[1]))
}

func (s *shell) free(o order) string { return s.put(o)(ops.Free(s.zoneOf(o), o.numbers...)) }

func (s *shell) limit(o order) string { return s.put(o)(ops.Constrain(s.zoneOf(o), o.limits...)) }

func (s *shell) widen(o order) string { return s.put(o)(extra.Max(s.zoneOf(o), o.numbers)) }

func (s *shell) print(o order) string { return line(s.zoneOf(o).Print()) }

func (s *shell) leastPoint(o order) string {
	v, err := point.Least(s.zoneOf(o))
	switch err {
	case api.OK:
		return line(point.Print(v))
	case api.ErrEmpty:
		return line(noneWord)
	}
	return failed(err)
}

func (s *shell) has(o order) string { return line(yesOrNo(point.In(s.zoneOf(o), o.point))) }

func (s *shell) includes(o order) string {
	return line(yesOrNo(s.zoneOf(o).Includes(s.zones[o.names[1]])))
}

func (s *shell) equal(o order) string {
	return line(yesOrNo(s.zoneOf(o).Equal(s.zones[o.names[1]])))
}
