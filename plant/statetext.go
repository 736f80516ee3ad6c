package plant

import (
	"strings"

	"switchgear/api"
)

// row is a line of the text of a state.
type row struct {
	word  string
	flags []bool
}

// rows returns the lines of a state; their flags are its own, so that they can be set there.
func rows(s api.State) []row {
	return []row{
		{"on", s.On},
		{"badsource", s.BadSource},
		{"closed", s.Closed},
		{"locked", s.Locked},
		{"badlink", s.BadLink},
		{"earthed", s.Earthed},
		{"badbus", s.BadBus},
	}
}

// Show returns the text of a state.
func Show(p api.Plant, s api.State) (string, api.Errno) {
	if e := CheckState(p, s); e != api.OK {
		return "", e
	}
	var text strings.Builder
	for _, x := range rows(s) {
		text.WriteString(x.word)
		text.WriteByte(' ')
		for _, flag := range x.flags {
			if flag {
				text.WriteByte('1')
			} else {
				text.WriteByte('0')
			}
		}
		text.WriteByte('\n')
	}
	return text.String(), api.OK
}

// Read returns the state of a text.
func Read(p api.Plant, text string) (s api.State, e api.Errno) {
	if e := Check(p); e != api.OK {
		return api.State{}, e
	}
	defer func() {
		if recover() != nil {
			s, e = api.State{}, api.ErrForm
		}
	}()
	t := blank(p)
	for _, x := range rows(t) {
		text = x.read(text)
	}
	// A state with a cable that is open or locked is none of the plant.
	must(text == "" && CheckState(p, t) == api.OK)
	return t, api.OK
}

// read sets the flags from the line at the beginning of a text, and returns the rest. It panics if the line has not the form.
func (x row) read(text string) string {
	line, rest, ended := strings.Cut(text, "\n")
	digits, named := strings.CutPrefix(line, x.word+" ")
	must(ended && named && len(digits) == len(x.flags))
	for i := range x.flags {
		must(digits[i] == '0' || digits[i] == '1')
		x.flags[i] = digits[i] == '1'
	}
	return rest
}
