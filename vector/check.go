package vector

import (
	"lodestar/api"
)

// leastPart is the least component; api.MaxPart is the greatest.
const leastPart = -32768

// Check answers ErrVector, unless v is a vector of dim components, metric is one, and v may be for it.
func Check(v []int, dim, metric int) api.Errno {
	if len(v) != dim || !isVector(v) || !isMetric(metric) {
		return api.ErrVector
	}
	// What has no direction has no angle to anything.
	if metric == api.MetricCos && isZero(v) {
		return api.ErrVector
	}
	return api.OK
}

// alike tells whether both are vectors of as many components.
func alike(a, b []int) bool {
	return len(a) == len(b) && isVector(a) && isVector(b)
}

func isVector(v []int) bool {
	if len(v) < 1 || len(v) > api.MaxDim {
		return false
	}
	for _, n := range v {
		if n < leastPart || n > api.MaxPart {
			return false
		}
	}
	return true
}

// isZero tells whether all components are 0.
func isZero(v []int) bool {
	for _, n := range v {
		if n != 0 {
			return false
		}
	}
	return true
}

func isMetric(n int) bool {
	return n == api.MetricL2 || n == api.MetricDot || n == api.MetricCos
}
