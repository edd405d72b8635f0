package model

import (
	"dicebox/api"
	"math/rand"
	"strings"
	"testing"
)

const diceText = "model 3\nstate 0 0\nchoice 0: 1 2/3, 2 1/3\nchoice 0: 0 1/2, 1 1/4, 2 1/4\nstate 0 0\nchoice 0: 1 1\nstate 0 1\nchoice 0: 2 1\n"

// P4.8
func TestPrint(t *testing.T) {
	if text, e := Print(dice()); text != diceText || e != api.OK {
		t.Errorf("%q %d", text, e)
	}
	m := dice()
	m.States[1] = api.State{Owner: 1, Mark: 63, Choices: []api.Choice{{Reward: of(-7, 3), Branches: []api.Branch{{To: 0, Chance: of(1, 1)}}}}}
	want := strings.Replace(diceText, "state 0 0\nchoice 0: 1 1\n", "state 1 63\nchoice -7/3: 0 1\n", 1)
	if text, e := Print(m); text != want || e != api.OK {
		t.Errorf("%q %d", text, e)
	}
}

// withLength returns a valid model whose printed form has n bytes, a little more than 32000.
func withLength(t *testing.T, n int) api.Model {
	m := greatest(of(1, 8))
	length := len("model 40\n")
	for i := range m.States {
		length += len("state 0 0\n")
		for j := range m.States[i].Choices {
			branches := m.States[i].Choices[j].Branches
			for k := range branches {
				branches[k].To += api.MaxStates - len(branches)
			}
			length += len(printChoice(m.States[i].Choices[j]))
		}
	}
	// lengthen the lower and upper parts of the rewards
	low := 100000000000000001
	for i := range m.States {
		for j := range m.States[i].Choices {
			reward := of(1, 1)
			if n-length >= 19 {
				reward.Low = low
				length += 19
			}
			for n-length > 0 && reward.Top < low {
				reward.Top *= 10
				length++
			}
			m.States[i].Choices[j].Reward = reward
		}
	}
	if length != n || !Valid(m) {
		t.Fatalf("%d bytes instead of %d", length, n)
	}
	return m
}

func TestPrintLimit(t *testing.T) {
	if text, e := Print(withLength(t, api.MaxText)); len(text) != api.MaxText || e != api.OK {
		t.Errorf("%d bytes, error %d", len(text), e)
	}
	if text, e := Print(withLength(t, api.MaxText+1)); text != "" || e != api.ErrFull {
		t.Errorf("%d bytes, error %d", len(text), e)
	}
	long := greatest(of(1, 8))
	for i := range long.States {
		for j := range long.States[i].Choices {
			long.States[i].Choices[j].Reward = of(api.MaxNum-1, api.MaxNum)
		}
	}
	if text, e := Print(long); text != "" || e != api.ErrFull {
		t.Errorf("%d bytes, error %d", len(text), e)
	}
}

// P4.10
func TestRoundTrip(t *testing.T) {
	r := rand.New(rand.NewSource(5))
	models := append(valid(), withLength(t, api.MaxText))
	for range 1000 {
		models = append(models, sample(r, r.Intn(12)+1, 4, 8))
	}
	for _, m := range models {
		text, e := Print(m)
		if e != api.OK {
			t.Fatalf("Print: %d", e)
		}
		got, e := Parse(text)
		checkModel(t, got, e, m)
		if !Identical(got, m) {
			t.Errorf("%q", text)
		}
	}
}

// TestParseNumbers: numbers in all ways that num's Parse accepts.
func TestParseNumbers(t *testing.T) {
	text := strings.NewReplacer("choice 0: 1 2/3", "choice -00/7: 1 04/06", "2 1\n", "2 "+strings.Repeat("0", 150)+"1/1\n").Replace(diceText)
	got, e := Parse(text)
	checkModel(t, got, e, dice())
}

func expectError(t *testing.T, text string, want api.Errno) {
	t.Helper()
	if m, e := Parse(text); m.States != nil || e != want {
		t.Errorf("%.200q: %v, error %d instead of %d", text, m, e, want)
	}
}

// notFormed returns texts that lack the form in one place.
func notFormed() []string {
	out := []string{"", "\n", "model", "model \n", "model 1", "state 0 0\n", "choice 0: 0 1\n", "model 3\n", strings.TrimSuffix(diceText, "\n"), diceText + "\n", "\n" + diceText,
		diceText + "choice", diceText + " ", "model 3\nchoice 0: 0 1\n" + strings.TrimPrefix(diceText, "model 3\n"), strings.ReplaceAll(diceText, "\n", "\r\n"), diceText + "model 3\n"}
	for _, change := range [][2]string{
		{"model 3", "model 4"}, {"model 3", "model 2"}, {"model 3", "model 03"}, {"model 3", "model  3"}, {"model 3", "model 3 "}, {"model 3", "Model 3"}, {"model 3", "model -3"},
		{"model 3", "model 0000000003"}, {"model 3", "model 4294967299"}, {"model 3", "model 18446744073709551619"}, {"model 3", "model 3 3"}, {"model 3", "model"},
		{"state 0 1", "state 0"}, {"state 0 1", "state 0 1 0"}, {"state 0 1", "state 0  1"}, {"state 0 1", "state 00 1"}, {"state 0 1", "state 0 01"}, {"state 0 1", "state 0 -1"},
		{"state 0 1", "state 0 +1"}, {"state 0 1", "state -0 1"}, {"state 0 1", "state 0 1/1"}, {"state 0 1", "state 0 1000000000"}, {"state 0 1", "state"}, {"state 0 1", " state 0 1"}, {"state 0 1", "state 0,1"},
		{"choice 0: 2 1\n", "choice 0 2 1\n"}, {"choice 0: 2 1\n", "choice : 2 1\n"}, {"choice 0: 2 1\n", "choice 0:2 1\n"}, {"choice 0: 2 1\n", "choice 0:  2 1\n"}, {"choice 0: 2 1\n", "choice 0: 2 1 \n"},
		{"choice 0: 2 1\n", "choice 0: 2  1\n"}, {"choice 0: 2 1\n", "choice 0: 2\n"}, {"choice 0: 2 1\n", "choice 0: 2 1,\n"}, {"choice 0: 2 1\n", "choice 0: \n"}, {"choice 0: 2 1\n", "choice 0:,\n"},
		{"choice 0: 2 1\n", "choice 0: 02 1\n"}, {"choice 0: 2 1\n", "choice 0: 2 +1\n"}, {"choice 0: 2 1\n", "choice 0: 2 1/0\n"}, {"choice 0: 2 1\n", "choice 0: -2 1\n"}, {"choice 0: 2 1\n", "choice 0: 2 1:\n"},
		{"choice 0: 2 1\n", "choice 0:: 2 1\n"}, {"choice 0: 2 1\n", "choice  0: 2 1\n"}, {"choice 0: 2 1\n", "choice 0 : 2 1\n"}, {"choice 0: 2 1\n", "choice 0: 2 0.5\n"}, {"choice 0: 2 1\n", "choice 1/00: 2 1\n"},
		{"choice 0: 2 1\n", "choice 0: 1234567890 1\n"}, {"choice 0: 2 1\n", "choice 0: 2 \u0661\n"}, {"choice 0: 2 1\n", "choice\n"}, {"choice 0: 2 1\n", "choices 0: 2 1\n"},
		{", 2 1/3", ",2 1/3"}, {", 2 1/3", " , 2 1/3"}, {", 2 1/3", ",, 2 1/3"}, {", 2 1/3", "; 2 1/3"}, {", 2 1/3", ", 2 1/3 2"}, {", 2 1/3", ", 2 1 / 3"}, {", 2 1/3", ",\n 2 1/3"},
	} {
		out = append(out, strings.Replace(diceText, change[0], change[1], 1))
	}
	return out
}

func TestParseForm(t *testing.T) {
	for _, text := range notFormed() {
		expectError(t, text, api.ErrForm)
		if text != "" && strings.HasPrefix(text, "model 3\nstate 0 0\nchoice 0: 1 2/3, 2 1/3\n") {
			// errors of form come before numbers that are not valid, and before models that are not
			expectError(t, strings.Replace(text, "choice 0: 1 2/3", "choice 2000000000000000000: 1 2/3", 1), api.ErrForm)
			expectError(t, strings.Replace(text, "choice 0: 1 2/3", "choice 0: 1 1/3", 1), api.ErrForm)
		}
	}
}

func TestParseFull(t *testing.T) {
	for _, change := range [][2]string{
		{"2/3", "1152921504606846977"}, {"choice 0: 2", "choice -1152921504606846977: 2"}, {"1/4", "1/1152921504606846977"}, {"1/4", strings.Repeat("0", 198) + "1/4"},
	} {
		text := strings.Replace(diceText, change[0], change[1], 1)
		expectError(t, text, api.ErrFull)
		// a model that would not be valid
		expectError(t, strings.Replace(text, "state 0 1", "state 2 1", 1), api.ErrFull)
	}
	blanks := strings.Repeat(" ", api.MaxText)
	expectError(t, blanks, api.ErrForm)
	expectError(t, blanks+" ", api.ErrFull)
	expectError(t, diceText+strings.Repeat("state 0 0\n", api.MaxText), api.ErrFull)
}

func TestParseNotValid(t *testing.T) {
	for _, change := range [][2]string{
		{"2/3", "1/3"}, {"2/3", "-2/3"}, {"2/3", "0"}, {"state 0 1", "state 2 1"}, {"state 0 1", "state 0 64"}, {"state 0 1", "state 999999999 999999999"}, {"choice 0: 2 1\n", ""},
		{"choice 0: 2 1\n", "choice 0:\n"}, {"choice 0: 2 1\n", "choice 0: 3 1\n"}, {"choice 0: 2 1\n", "choice 0: 999999999 1\n"}, {"1 2/3, 2 1/3", "2 2/3, 1 1/3"}, {"1 2/3, 2 1/3", "1 2/3, 1 1/3"},
		{"choice 0: 2 1\n", strings.Repeat("choice 0: 2 1\n", 9)},
	} {
		expectError(t, strings.Replace(diceText, change[0], change[1], 1), api.ErrArg)
	}
	expectError(t, "model 0\n", api.ErrArg)
	expectError(t, "model 41\n"+strings.Repeat("state 0 0\nchoice 0: 0 1\n", 41), api.ErrArg)
	expectError(t, "model 1\nstate 0 0\nchoice 0: 0 1/9"+strings.Repeat(", 0 1/9", 8)+"\n", api.ErrArg)
}
