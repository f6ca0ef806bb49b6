package shop

import "hammerpond/api"

// BuildUnits lets tests build several units. The stale groups of one goal all
// belong together, so that Build itself never has more than one.
func (x *Shop) BuildUnits(groups []api.Group, units [][]int, on bool) []api.Outcome {
	return x.buildUnits(groups, units, on)
}
