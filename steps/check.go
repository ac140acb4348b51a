package steps

import (
	"cantus/api"
	"cantus/wire"
)

// checker goes through sections, each ahead of its kids.
type checker struct {
	met int
}

// sections is how long sections on a level are, one behind the other.
func (c *checker) sections(l []api.Section, level int) (int, api.Errno) {
	all := 0
	for _, s := range l {
		long, err := c.section(s, level)
		if err != api.OK {
			return 0, err
		}
		if all += long; all > api.MaxTotal {
			return 0, api.ErrMuch
		}
	}
	return all, api.OK
}

func (c *checker) section(s api.Section, level int) (int, api.Errno) {
	if level > api.MaxLevel {
		return 0, api.ErrMuch
	}
	if c.met == api.MaxSections {
		return 0, api.ErrMany
	}
	c.met++
	if err := wrongAlone(s); err != api.OK {
		return 0, err
	}
	kids, err := c.sections(s.Kids, level+1)
	if err != api.OK {
		return 0, err
	}
	t := turns{times: s.Times, once: s.Long + kids}
	if t.tooLong() {
		return 0, api.ErrMuch
	}
	return t.all(), api.OK
}

// wrongAlone is what is wrong with a section, whatever its kids are.
func wrongAlone(s api.Section) api.Errno {
	if s.Times < 0 || s.Times > api.MaxTimes || s.Long < 0 || s.Long > api.MaxLong {
		return api.ErrRange
	}
	if err := wire.Wrong(s.Events); err != api.OK {
		return err
	}
	// None of them is later than the last one.
	if n := len(s.Events); n > 0 && s.Events[n-1].At >= s.Long {
		return api.ErrFit
	}
	return api.OK
}
