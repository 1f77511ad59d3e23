package replay

import (
	"gnomon/api"
	"gnomon/moves"
	"gnomon/rat"
	"gnomon/state"
)

// rule is something that must hold of a configuration, and leads it on; the error is told, where it does not hold.
type rule struct {
	err  api.Errno
	keep func(c *Config) bool
}

// behind is what rules, one behind the other, make of a configuration; or the error of the first one that does not hold.
func behind(c Config, rules ...rule) (Config, api.Errno) {
	own := copied(c)
	for _, r := range rules {
		if !r.keep(&own) {
			return Config{}, r.err
		}
	}
	return own, api.OK
}

func standing(n api.Net) rule {
	return rule{api.ErrInv, func(c *Config) bool { return c.stands(n) }}
}

// waiting is what must hold where time passes.
func waiting(n api.Net, d api.Rat) []rule {
	return []rule{
		{api.ErrDelay, func(c *Config) bool { return !isNoTime(d) }},
		{api.ErrDelay, func(c *Config) bool { return d == rat.Of(0) || state.Stays(n, c.State) }},
		{api.ErrOver, func(c *Config) bool { return c.wait(d) }},
		standing(n),
	}
}

// moving is what must hold where a move is done.
func moving(n api.Net, m api.Move) []rule {
	return []rule{
		{api.ErrMove, func(c *Config) bool { return moves.Open(n, c.State, m) != api.ErrMove }},
		{api.ErrGuard, func(c *Config) bool { return c.enter(n, m) }},
		{api.ErrGuard, func(c *Config) bool { return c.pass(n, m) }},
		standing(n),
	}
}

// follow does a run from the beginning on, and shows each configuration on its way: the last one, and how many steps there are; or the error, and the number of the step at which it is.
func follow(n api.Net, r api.Run, show func(Config)) (Config, api.Errno, int) {
	c, err := First(n)
	if err != api.OK {
		return Config{}, err, 0
	}
	show(c)
	for i, s := range r.Steps {
		if c, err = behind(c, waiting(n, s.Delay)...); err != api.OK {
			return Config{}, err, i
		}
		show(c)
		if c, err = behind(c, moving(n, s.Move)...); err != api.OK {
			return Config{}, err, i
		}
		show(c)
	}
	if c, err = behind(c, waiting(n, r.Last)...); err != api.OK {
		return Config{}, err, len(r.Steps)
	}
	show(c)
	return c, api.OK, len(r.Steps)
}
