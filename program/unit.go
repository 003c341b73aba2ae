package program

type measure int

const (
	mass measure = iota
	volume
	time
)

type unit struct {
	name    string
	measure measure
	size    int64 // in µg, mL or s
}

const (
	microgram      = "\u00b5g"
	typedMicrogram = "ug"
)

func unitNamed(name string) (unit, bool) {
	for _, u := range [...]unit{
		{"g", mass, 1000000}, {"mg", mass, 1000}, {microgram, mass, 1}, {typedMicrogram, mass, 1},
		{"L", volume, 1000}, {"mL", volume, 1},
		{"s", time, 1}, {"min", time, 60}, {"h", time, 3600}, {"d", time, 86400},
	} {
		if u.name == name {
			return u, true
		}
	}
	return unit{}, false
}
