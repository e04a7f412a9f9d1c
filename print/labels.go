package print

import "athanor/api"

// unset is the number of a label, as long as it stands nowhere.
const unset = -1

// labelsOf finds the nodes that have a label: those that are met more than once from n on. What is still to be met waits on a stack of its own, since a list is as deep as it is long.
func labelsOf(nodes []api.Node, n int) map[int]int {
	labels := map[int]int{}
	met := make([]bool, len(nodes))
	waiting := []int{n}
	for len(waiting) > 0 {
		last := len(waiting) - 1
		place := waiting[last]
		waiting = waiting[:last]
		switch {
		case !mayHaveLabel(nodes[place].Kind): // nor are its kids looked at
		case met[place]:
			labels[place] = unset
		default:
			met[place] = true
			waiting = append(waiting, nodes[place].Kids...)
		}
	}
	return labels
}

// mayHaveLabel tells whether nodes of a kind have labels where they are met again.
func mayHaveLabel(kind int) bool {
	switch kind {
	case api.GPair, api.GVector, api.GString, api.GBytes, api.GCond, api.GValues:
		return true
	}
	return false
}
