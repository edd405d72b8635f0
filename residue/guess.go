package residue

import "dicebox/api"

// Guess returns valid numbers that have the residues that compute returns for each field, and whether
// there are any. Wherever compute returns the residues of a list of valid numbers, they are
// that list. Other numbers rarely have such residues, because of the third field; but they may:
// who has to be certain computes the numbers in another way.
func Guess(compute func(f Field) []uint64) ([]api.Num, bool) {
	var fields []Field
	var images [][]uint64
	for f := range Fields {
		fields = append(fields, f)
		images = append(images, compute(f))
		if len(fields) == 3 {
			break
		}
	}
	out := make([]api.Num, len(images[0]))
	for i := range out {
		number, found := Rebuild(fields[0], fields[1], images[0][i], images[1][i])
		if !found || fields[2].Of(number) != images[2][i] {
			return nil, false
		}
		out[i] = number
	}
	return out, true
}
