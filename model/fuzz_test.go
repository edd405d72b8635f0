package model

import (
	"dicebox/api"
	"testing"
)

// FuzzParse: what is parsed is valid and printed to a text that is parsed to the same model.
func FuzzParse(f *testing.F) {
	f.Add(diceText)
	f.Add("model 1\nstate 0 0\nchoice -1/2: 0 1\n")
	f.Fuzz(func(t *testing.T, text string) {
		m, e := Parse(text)
		if e != api.OK {
			if m.States != nil {
				t.Errorf("%q: %v with error %d", text, m, e)
			}
			return
		}
		printed, e := Print(m)
		if e == api.ErrFull {
			return
		}
		again, e := Parse(printed)
		if e != api.OK || !Valid(m) || !Identical(again, m) {
			t.Errorf("%q is printed as %q", text, printed)
		}
	})
}
