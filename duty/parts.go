package duty

import (
	"slices"

	"vitola/api"
)

// CheckParts returns the error of parts.
func CheckParts(parts []int) api.Errno {
	if len(parts) > MaxParts {
		return api.ErrMany
	}
	before := 0
	for _, part := range parts {
		if part < 2 || part > MaxPart {
			return api.ErrRange
		}
		if part <= before {
			return api.ErrOrder
		}
		before = part
	}
	return api.OK
}

// Sum returns the sum of parts.
func Sum(parts []int) (above, below int, e api.Errno) {
	if e := CheckParts(parts); e != api.OK {
		return 0, 0, e
	}
	sum := sumOf(parts)
	return sum.Above, sum.Below, api.OK
}

func sumOf(parts []int) Fraction {
	sum := Fraction{Above: 0, Below: 1}
	for _, part := range parts {
		sum = sum.plus(part)
	}
	return sum.reduced()
}

// Divide divides a part in two.
func Divide(parts []int, index int) ([]int, api.Errno) {
	if e := CheckParts(parts); e != api.OK {
		return nil, e
	}
	if index < 0 || index >= len(parts) {
		return nil, api.ErrNone
	}
	if len(parts) == MaxParts {
		return nil, api.ErrMany
	}
	near := parts[index] + 1
	far := parts[index] * near
	if far > MaxPart {
		return nil, api.ErrOver
	}
	if slices.Contains(parts, near) || slices.Contains(parts, far) {
		return nil, api.ErrTwice
	}
	divided := slices.Concat(parts[:index], parts[index+1:], []int{near, far})
	slices.Sort(divided)
	return divided, api.OK
}

// Cents returns the whole cents of each part, and what is over.
func Cents(total int, parts []int) (each []int, over int, e api.Errno) {
	if total < 0 || total > MaxCents {
		return nil, 0, api.ErrRange
	}
	if e := CheckParts(parts); e != api.OK {
		return nil, 0, e
	}
	sum := sumOf(parts)
	over = total * sum.Above / sum.Below
	for _, part := range parts {
		cents := total / part
		each = append(each, cents)
		over -= cents
	}
	return each, over, api.OK
}
