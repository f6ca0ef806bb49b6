package console

import "hammerpond/api"

// A plan and a build never have more than one unit, since all that is stale for
// a goal belongs together. These let tests see how several ones are printed.

func UnitsText(groups []api.Group, units [][]int) string { return unitsText(groups, units) }

func OutcomesText(outcomes []api.Outcome) string { return outcomesText(outcomes) }
