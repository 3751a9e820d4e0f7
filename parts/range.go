package parts

import "halyard/api"

// IsIndex: whether something is numbered i, of n numbered from 0 on.
func IsIndex(i, n int) bool {
	return 0 <= i && i < n
}

// IsId: whether a thing may have an id.
func IsId(id int) bool {
	return 1 <= id && id <= api.MaxId
}

// IsInt: whether a number may be kept.
func IsInt(n int) bool {
	return -api.MaxInt <= n && n <= api.MaxInt
}
