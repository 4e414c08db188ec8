package loom

// Fair tells whether each of n machines stands in every row of so many picks.
func Fair(picks []int, n, window int) bool {
	if n < 1 || window < 1 {
		return false
	}
	if len(picks) < window {
		return true
	}
	if n > window { // told ahead of a list of n: so many machines do not fit into a row
		return false
	}
	times := make([]int, n)
	missing := n
	for i, w := range picks {
		in := rest(w, n)
		if times[in] == 0 {
			missing--
		}
		times[in]++
		if i < window-1 {
			continue
		}
		if missing > 0 {
			return false
		}
		out := rest(picks[i-window+1], n)
		times[out]--
		if times[out] == 0 {
			missing++
		}
	}
	return true
}
