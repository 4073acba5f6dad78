package repair

import (
	"hedgelayer/api"
	"hedgelayer/scan"
)

// Between is the least cost of fixes from a word to another one.
func Between(a, b []string, p api.Prices) (int, api.Errno) {
	if len(a) > api.MaxRepair || len(b) > api.MaxRepair {
		return 0, api.ErrLarge
	}
	for _, word := range [][]string{a, b} {
		for _, kind := range word {
			if !scan.IsName(kind) {
				return 0, api.ErrName
			}
		}
	}
	if err := checkPrices(p); err != api.OK {
		return 0, err
	}
	// costs are those from the tokens of a so far to each beginning of b.
	costs := make([]int, len(b)+1)
	for j := range b {
		costs[j+1] = costs[j] + p.Insert
	}
	for _, kind := range a {
		costs = withToken(costs, kind, b, p)
	}
	return costs[len(b)], api.OK
}

// withToken are the costs from one more token to each beginning of a word.
func withToken(costs []int, kind string, word []string, p api.Prices) []int {
	next := make([]int, len(costs))
	next[0] = costs[0] + p.Delete
	for j, other := range word {
		same := costs[j]
		if kind != other {
			same += p.Replace
		}
		next[j+1] = min(same, costs[j+1]+p.Delete, next[j]+p.Insert)
	}
	return next
}
