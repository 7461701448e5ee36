package expand

import (
	"mason/api"
	"mason/lines"
)

// condition is an `.if` whose `.endif` has not come yet.
type condition struct {
	passes  bool // the lines that come now are passed over
	hasElse bool
}

// conditions are those that are open, the innermost one last.
type conditions struct {
	open []condition
}

func (c *conditions) depth() int {
	return len(c.open)
}

func (c *conditions) passing() bool {
	return c.passingWithin(len(c.open))
}

// passingWithin tells whether a line would be passed over that stands within the first conditions alone, so many.
func (c *conditions) passingWithin(count int) bool {
	return count > 0 && c.open[count-1].passes
}

func (c *conditions) begin(passes bool) {
	c.open = append(c.open, condition{passes: passes})
}

// turn does what an `.else` says. Of one that is passed over, only its place counts.
func (c *conditions) turn(parts lines.Parts) api.Errno {
	if len(c.open) == 0 {
		return api.ErrNest
	}
	last := &c.open[len(c.open)-1]
	if last.hasElse {
		return api.ErrNest
	}
	last.hasElse = true
	if c.passingWithin(len(c.open) - 1) {
		return api.OK
	}
	last.passes = !last.passes
	return needBare(parts)
}

// finish does what an `.endif` says. Of one that is passed over, only its place counts.
func (c *conditions) finish(parts lines.Parts) api.Errno {
	if len(c.open) == 0 {
		return api.ErrNest
	}
	c.open = c.open[:len(c.open)-1]
	if c.passing() {
		return api.OK
	}
	return needBare(parts)
}

func needBare(parts lines.Parts) api.Errno {
	if !parts.IsBare() {
		return api.ErrOperand
	}
	return api.OK
}
