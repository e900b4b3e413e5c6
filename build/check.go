package build

import (
	"synthesis/api"
	"synthesis/value"
)

// isOutcome reports whether programs of a type can have this outcome.
func isOutcome(o api.Outcome, t int) bool {
	if o.Errno == api.OK {
		return value.Check(o.Value) == api.OK && o.Value.Type == t
	}
	return o.Errno == api.ErrUndefined && value.Equal(o.Value, api.Value{})
}
