package blend

import (
	"cmp"
	"slices"

	"vitola/api"
)

// Recipe is a weight for each leaf, and bounds.
type Recipe struct {
	Weights []int
	Low     int
	High    int
}

// weigh returns the weight of a blend.
func (r Recipe) weigh(blend []int) int {
	sum := 0
	for _, leaf := range blend {
		sum += r.Weights[leaf]
	}
	return sum
}

// fits returns whether a blend fits.
func (r Recipe) fits(blend []int) bool {
	weight := r.weigh(blend)
	return r.Low <= weight && weight <= r.High
}

// fitting returns all blends of a size that fit.
func (r Recipe) fitting(size int) [][]int {
	var all [][]int
	for blend := range round(len(r.Weights), size) {
		if r.fits(blend) {
			all = append(all, kept(blend))
		}
	}
	return all
}

// CheckRecipe returns the error of a recipe.
func CheckRecipe(r Recipe) api.Errno {
	if len(r.Weights) == 0 {
		return api.ErrEmpty
	}
	if len(r.Weights) > MaxLeaves {
		return api.ErrMany
	}
	for _, weight := range r.Weights {
		if weight < 0 || weight > MaxWeight {
			return api.ErrRange
		}
	}
	if r.Low > r.High {
		return api.ErrOrder
	}
	return api.OK
}

// checkWith returns the error of a recipe and a blend.
func checkWith(r Recipe, blend []int) api.Errno {
	if e := CheckRecipe(r); e != api.OK {
		return e
	}
	return Check(len(r.Weights), blend)
}

// Weight returns the weight of a blend.
func Weight(r Recipe, blend []int) (int, api.Errno) {
	if e := checkWith(r, blend); e != api.OK {
		return 0, e
	}
	return r.weigh(blend), api.OK
}

// Fits returns how many blends of a size fit.
func Fits(r Recipe, size int) (int, api.Errno) {
	if e := CheckRecipe(r); e != api.OK {
		return 0, e
	}
	if e := checkSize(len(r.Weights), size); e != api.OK {
		return 0, e
	}
	return len(r.fitting(size)), api.OK
}

// Nearest returns the first one of the nearest blends of the same size that fit.
func Nearest(r Recipe, blend []int) ([]int, api.Errno) {
	if e := checkWith(r, blend); e != api.OK {
		return nil, e
	}
	all := r.fitting(len(blend))
	if len(all) == 0 {
		return nil, api.ErrLost
	}
	return slices.MinFunc(all, func(a, b []int) int {
		return cmp.Or(cmp.Compare(distance(blend, a), distance(blend, b)), slices.Compare(a, b))
	}), api.OK
}

// Reach returns the smallest and the greatest weight of the blends of the same size with at most so many exchanges.
func Reach(r Recipe, blend []int, changes int) (low, high int, e api.Errno) {
	if e := checkWith(r, blend); e != api.OK {
		return 0, 0, e
	}
	if changes < 0 || changes > MaxLeaves {
		return 0, 0, api.ErrRange
	}
	low, high = r.weigh(blend), r.weigh(blend)
	for other := range round(len(r.Weights), len(blend)) {
		if distance(blend, other) <= changes {
			low, high = min(low, r.weigh(other)), max(high, r.weigh(other))
		}
	}
	return low, high, api.OK
}
