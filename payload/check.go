package payload

import (
	"slices"
	"unicode/utf8"

	"lodestar/api"
)

// maxName is how many bytes a name has at most.
const maxName = 32

// leastPart is the least component; api.MaxPart is the greatest.
const leastPart = -32768

// size says of a kind in how many bytes its number is laid (of a word: Text's length), from where to where N goes, and how many bytes Text has at most.
type size struct {
	width, low, high, text int
}

// sizes has the size of each kind at the kind's place.
var sizes = [...]size{
	api.KindInt:  {width: 8, low: -api.MaxId, high: api.MaxId},
	api.KindWord: {width: 2, text: api.MaxWord},
	api.KindBool: {width: 1, high: 1},
}

// CheckSchema answers ErrSchema, unless s may be.
func CheckSchema(s api.Schema) api.Errno {
	if !outlined(s.Vectors, vecSpecName, 1, api.MaxVectors) || !outlined(s.Fields, fieldSpecName, 0, api.MaxFields) {
		return api.ErrSchema
	}
	if !all(s.Vectors, vecSpecMayBe) || !all(s.Fields, fieldSpecMayBe) {
		return api.ErrSchema
	}
	return api.OK
}

// Check answers ErrSchema, if s may not be, else what p has against it: ErrPoint ahead of ErrVector, and that ahead of ErrField.
func Check(s api.Schema, p api.Point) api.Errno {
	if CheckSchema(s) != api.OK {
		return api.ErrSchema
	}
	if !pointOutlined(p) {
		return api.ErrPoint
	}
	if !all(p.Vectors, func(v api.Vec) bool { return vecFits(s.Vectors, v) }) {
		return api.ErrVector
	}
	if !all(p.Fields, func(f api.Field) bool { return fieldFits(s.Fields, f) }) {
		return api.ErrField
	}
	return api.OK
}

// sizeOf answers a kind's size, and whether it is a kind.
func sizeOf(kind int) (size, bool) {
	if kind < 1 || kind >= len(sizes) {
		return size{}, false
	}
	return sizes[kind], true
}

// vecFits tells whether one of the specs is for v, and lets it be.
func vecFits(specs []api.VecSpec, v api.Vec) bool {
	i := slices.IndexFunc(specs, func(spec api.VecSpec) bool { return spec.Name == v.Name })
	if i < 0 || len(v.V) != specs[i].Dim || !all(v.V, isPart) {
		return false
	}
	// What has no direction has no angle to anything.
	return specs[i].Metric != api.MetricCos || !all(v.V, isZero)
}

// fieldFits tells whether one of the specs is for f, and lets it be.
func fieldFits(specs []api.FieldSpec, f api.Field) bool {
	return slices.Contains(specs, api.FieldSpec{Name: f.Name, Kind: f.Value.Kind}) && fieldMayBe(f)
}

func vecSpecMayBe(spec api.VecSpec) bool {
	return 1 <= spec.Dim && spec.Dim <= api.MaxDim && isMetric(spec.Metric)
}

func fieldSpecMayBe(spec api.FieldSpec) bool {
	_, ok := sizeOf(spec.Kind)
	return ok
}

// pointMayBe tells whether p may be, whatever the schema.
func pointMayBe(p api.Point) bool {
	return pointOutlined(p) && all(p.Vectors, vecMayBe) && all(p.Fields, fieldMayBe)
}

// pointOutlined tells whether p may be for its Id, how many vectors and fields it has, and their names.
func pointOutlined(p api.Point) bool {
	return 1 <= p.Id && p.Id <= api.MaxId && outlined(p.Vectors, vecName, 1, api.MaxVectors) && outlined(p.Fields, fieldName, 0, api.MaxFields)
}

func vecMayBe(v api.Vec) bool {
	return 1 <= len(v.V) && len(v.V) <= api.MaxDim && all(v.V, isPart)
}

// fieldMayBe tells whether f's value may be. What its kind does not name has room for nothing but zero.
func fieldMayBe(f api.Field) bool {
	v := f.Value
	s, ok := sizeOf(v.Kind)
	return ok && s.low <= v.N && v.N <= s.high && len(v.Text) <= s.text && utf8.ValidString(v.Text)
}

// outlined tells whether l has from least to most things, whose names are names that rise.
func outlined[T any](l []T, nameOf func(T) string, least, most int) bool {
	if len(l) < least || len(l) > most {
		return false
	}
	last := "" // less than each name
	for _, x := range l {
		name := nameOf(x)
		if !isName(name) || name <= last {
			return false
		}
		last = name
	}
	return true
}

// all tells whether each of l is such a one.
func all[T any](l []T, such func(T) bool) bool {
	for _, x := range l {
		if !such(x) {
			return false
		}
	}
	return true
}

// isName tells whether s is a name.
func isName(s string) bool {
	return s != "" && len(s) <= maxName && !isDigit(s[0]) && all([]byte(s), inName)
}

func isMetric(n int) bool {
	return n == api.MetricL2 || n == api.MetricDot || n == api.MetricCos
}

func isPart(n int) bool   { return leastPart <= n && n <= api.MaxPart }
func isZero(n int) bool   { return n == 0 }
func isDigit(b byte) bool { return '0' <= b && b <= '9' }
func inName(b byte) bool {
	return 'a' <= b && b <= 'z' || 'A' <= b && b <= 'Z' || isDigit(b) || b == '_'
}

func vecSpecName(x api.VecSpec) string     { return x.Name }
func fieldSpecName(x api.FieldSpec) string { return x.Name }
func vecName(x api.Vec) string             { return x.Name }
func fieldName(x api.Field) string         { return x.Name }
