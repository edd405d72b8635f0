package residue

import "dicebox/api"

// fieldCount is the number of fields whose residues are compared with those of valid numbers: two of them
// determine a valid number, and the third one refuses most others.
const fieldCount = 3

// Triple returns the fields whose residues Match expects.
func Triple() [fieldCount]Field {
	var out [fieldCount]Field
	i := 0
	for f := range Fields {
		out[i] = f
		i++
		if i == fieldCount {
			break
		}
	}
	return out
}

// Match returns the valid numbers that have these residues in the fields of Triple, a list for each
// field, and whether there are any. Only one list of valid numbers may have them. Numbers that are
// not valid rarely have residues that valid numbers have too; but they may: who has to be certain
// computes the numbers in another way.
func Match(images [fieldCount][]uint64) ([]api.Num, bool) {
	fields := Triple()
	out := make([]api.Num, len(images[0]))
	for i := range out {
		number, found := Rebuild(fields[0], fields[1], images[0][i], images[1][i])
		if !found || fields[2].Of(number) != images[2][i] {
			return nil, false
		}
		out[i] = number
	}
	return out, true
}

// Guess returns the valid numbers that have the residues that compute returns for each field of Triple,
// and whether there are any, like Match.
func Guess(compute func(f Field) []uint64) ([]api.Num, bool) {
	var images [fieldCount][]uint64
	for i, f := range Triple() {
		images[i] = compute(f)
	}
	return Match(images)
}
