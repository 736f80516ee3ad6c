package plant_test

import (
	"slices"
	"strings"
	"testing"

	"switchgear/api"
	"switchgear/plant"
)

const (
	chapterText = "plant 3\nsource 0 grid 500 0 20\nsource 2 generator 300 0 40\nlink 0 1 breaker 400 10 1000:400 5000:50\nlink 1 2 breaker 400 10\nrack 1 -1 100 1\n"
	mixedText   = "plant 5\nsource 0 grid 500 1 20\nsource 3 generator 300 1 40\nsource 4 battery 50 2 100\nlink 0 1 cable 400 10\nlink 1 2 switch 300 11\nlink 2 3 breaker 200 12 100:20\nlink 4 3 breaker 100 13\nrack 1 3 100 2\nrack 4 -1 20 0\n"
)

func TestFormat(t *testing.T) {
	for _, c := range []struct {
		p    api.Plant
		text string
	}{{chapter(), chapterText}, {mixed(), mixedText}, {api.Plant{Buses: 24}, "plant 24\n"}} {
		if text, e := plant.Format(c.p); e != api.OK || text != c.text {
			t.Error(text, e)
		}
		if p, n, e := plant.Parse(c.text); e != api.OK || n != 0 || !samePlant(p, c.p) {
			t.Error(p, n, e)
		}
	}
	for _, c := range []struct {
		p api.Plant
		e api.Errno
	}{{api.Plant{}, api.ErrBus}, {api.Plant{Buses: 1, Sources: make([]api.Source, 1)}, api.ErrSource}, {api.Plant{Buses: 1, Links: make([]api.Link, 1)}, api.ErrLink}, {api.Plant{Buses: 1, Racks: make([]api.Rack, 1)}, api.ErrRack}} {
		if text, e := plant.Format(c.p); e != c.e || text != "" {
			t.Error(text, e)
		}
	}
}

// fails checks that Parse returns an error with an index, and no plant.
func fails(t *testing.T, text string, index int, want api.Errno) {
	t.Helper()
	p, n, e := plant.Parse(text)
	if e != want || n != index || !samePlant(p, api.Plant{}) {
		t.Errorf("%.60q: %v %d %d, not %d %d", text, p, n, e, index, want)
	}
}

// split returns the lines of a text without their line feeds; joined is the text of lines.
func split(text string) []string { return strings.Split(strings.TrimSuffix(text, "\n"), "\n") }

func joined(lines ...string) string {
	if len(lines) == 0 {
		return ""
	}
	return strings.Join(lines, "\n") + "\n"
}

// with returns lines of which one is another.
func with(lines []string, i int, line string) []string {
	l := slices.Clone(lines)
	l[i] = line
	return l
}

// TestParseNearly changes each line of a right text into lines that are nearly right.
func TestParseNearly(t *testing.T) {
	lines := split(mixedText)
	for i, line := range lines {
		word, rest, _ := strings.Cut(line, " ")
		wrong := []string{
			"", " ", word, word + " ", " " + line, line + " ", line + " x", line + "\r", line + "\t", line + "\x00",
			strings.Replace(line, " ", "  ", 1), strings.Replace(line, " ", "\t", 1), word + "s " + rest, word[:3] + " " + rest,
			strings.ToUpper(line), strings.ToUpper(line[:1]) + line[1:], rest,
		}
		if !strings.Contains(line, "breaker") {
			wrong = append(wrong, line+" 1", line+" 1:1:1")
		}
		if !strings.Contains(line, ":") {
			wrong = append(wrong, line[:strings.LastIndex(line, " ")])
		}
		for _, w := range wrong {
			fails(t, joined(with(lines, i, w)...), i, api.ErrForm)
		}
		fails(t, joined(lines[:i]...)+line, i, api.ErrForm)
		fails(t, joined(lines[:i+1]...)+"\n", i+1, api.ErrForm)
		fails(t, joined(lines[:i+1]...)+"\nplant", i+1, api.ErrForm)
	}
}

// TestParseNumbers puts words into each place of a number.
func TestParseNumbers(t *testing.T) {
	places := []string{
		"plant #\n", "plant 2\nsource # grid 1 0 10\n", "plant 2\nsource 0 grid # 0 10\n", "plant 2\nsource 0 grid 1 # 10\n", "plant 2\nsource 0 grid 1 0 #\n",
		"plant 2\nlink # 1 cable 1 10\n", "plant 2\nlink 0 # cable 1 10\n", "plant 2\nlink 0 1 cable # 10\n", "plant 2\nlink 0 1 cable 1 #\n",
		"plant 2\nlink 0 1 breaker 1 10 #:1\n", "plant 2\nlink 0 1 breaker 1 10 1:#\n", "plant 2\nlink 0 1 breaker 1 10 1:9 2:#\n",
		"plant 2\nrack # -1 1 1\n", "plant 2\nrack 0 # 1 1\n", "plant 2\nrack 0 -1 # 1\n", "plant 2\nrack 0 -1 1 #\n",
	}
	errors := map[string]api.Errno{"plant": api.ErrBus, "source": api.ErrSource, "link": api.ErrLink, "rack": api.ErrRack}
	for _, place := range places {
		lines := strings.Count(place, "\n")
		last := strings.Split(place, "\n")[lines-1]
		word, _, _ := strings.Cut(last, " ")
		for _, n := range []string{"999999999", "-999999999", "-2", "-100000000"} {
			fails(t, strings.Replace(place, "#", n, 1), lines, errors[word])
		}
		for _, n := range []string{"", "-", "+1", "01", "00", "-0", "-01", "--1", "1000000000", "-1000000000", "99999999999999999999", "1.0", "1e3", "0x1", "1_0", "a", "1a", "١", "1:", ":1", "1:1:1"} {
			fails(t, strings.Replace(place, "#", n, 1), lines-1, api.ErrForm)
		}
	}
}

func TestParseKinds(t *testing.T) {
	for _, c := range []struct {
		text  string
		index int
		e     api.Errno
	}{
		{"source 0 grid 1 0 10", 0, api.OK}, {"source 0 generator 1 0 10", 0, api.OK}, {"source 0 battery 1 0 10", 0, api.OK},
		{"source 0 Grid 1 0 10", 1, api.ErrForm}, {"source 0 cable 1 0 10", 1, api.ErrForm}, {"source 0 1 1 0 10", 1, api.ErrForm}, {"source 0  1 0 10", 1, api.ErrForm},
		{"link 0 1 cable 1 10", 0, api.OK}, {"link 0 1 switch 1 10", 0, api.OK}, {"link 0 1 breaker 1 10", 0, api.OK},
		{"link 0 1 grid 1 10", 1, api.ErrForm}, {"link 0 1 breake 1 10", 1, api.ErrForm}, {"link 0 1 3 1 10", 1, api.ErrForm},
		{"link 0 1 switch 1 10 1:1", 2, api.ErrLink}, {"link 0 1 cable 1 10 1:1", 2, api.ErrLink}, {"link 0 1 breaker 1 10 1:1", 0, api.OK},
		{"link 0 1 breaker 1 10 1:6 2:5 3:4 4:3 5:2 6:1", 0, api.OK}, {"link 0 1 breaker 1 10 1:7 2:6 3:5 4:4 5:3 6:2 7:1", 2, api.ErrLink}, {"link 0 1 breaker 1 10 1 1", 1, api.ErrForm},
		{"link 0 0 breaker 1 10", 2, api.ErrLink}, {"rack 0 0 1 1", 2, api.ErrRack}, {"rack 0 1 1 2", 0, api.OK}, {"rack 0 -1 1 2", 2, api.ErrRack},
	} {
		if _, n, e := plant.Parse("plant 2\n" + c.text + "\n"); n != c.index || e != c.e {
			t.Error(c.text, n, e)
		}
	}
}

// TestParseOrder tries which lines can follow which.
func TestParseOrder(t *testing.T) {
	lines := []string{"plant 2\n", "source 0 grid 1 0 10\n", "link 0 1 cable 1 10\n", "rack 0 -1 1 1\n"}
	for a, first := range lines {
		if a == 0 {
			fails(t, first+first, 1, api.ErrForm)
		} else {
			fails(t, first, 0, api.ErrForm)
			fails(t, first+lines[0], 0, api.ErrForm)
		}
		for b, second := range lines {
			text := lines[0] + first + second
			switch _, n, e := plant.Parse(text); {
			case a > 0 && b >= a:
				if n != 0 || e != api.OK {
					t.Error(text, n, e)
				}
			case a > 0:
				fails(t, text, 2, api.ErrForm)
			default:
				fails(t, text, 1, api.ErrForm)
			}
		}
	}
}

func TestParseLengths(t *testing.T) {
	fails(t, "", 0, api.ErrForm)
	fails(t, "\n", 0, api.ErrForm)
	fails(t, "plant 0\nlink 0 1 cable 1 10\n", 2, api.ErrBus)
	fails(t, "plant 1\n"+strings.Repeat("source 0 grid 1 0 10\n", 9), 10, api.ErrSource)
	// A line that has not the form comes before the errors of the plant.
	fails(t, "plant 0\nsource 0 grid 1 0 10\nlink\n", 2, api.ErrForm)
	source := "source 0 grid 1 0 10\n"
	many := "plant 1\n" + strings.Repeat(source, (api.MaxText-8)/len(source))
	fails(t, many, strings.Count(many, "\n"), api.ErrSource)
	full := many + strings.Repeat("x", api.MaxText-len(many)-1) + "\n"
	fails(t, full, strings.Count(many, "\n"), api.ErrForm)
	fails(t, full+"\n", 0, api.ErrMany)
	fails(t, strings.Repeat(" ", api.MaxText), 0, api.ErrForm)
	fails(t, strings.Repeat("\n", api.MaxText), 0, api.ErrForm)
	fails(t, strings.Repeat("plant 1\n", api.MaxText/8+1), 0, api.ErrMany)
}

func TestParseOwnMemory(t *testing.T) {
	text := "plant 2\nlink 0 1 breaker 1 10 1:9\nlink 0 1 breaker 1 10 2:8\n"
	p, _, _ := plant.Parse(text)
	q, _, _ := plant.Parse(text)
	_ = append(p.Links[0].Trip, api.Trip{Amps: 7, Millis: 7})
	p.Links[0].Trip[0].Amps = 5
	if p.Links[1].Trip[0].Amps != 2 || q.Links[0].Trip[0].Amps != 1 {
		t.Error("plants share memory")
	}
}

func TestShowAndRead(t *testing.T) {
	p := mixed()
	s := start(t, p, 2)
	s.Locked[1], s.BadLink[3], s.On[1], s.BadSource[2], s.Earthed[0], s.BadBus[4] = true, true, false, true, true, true
	want := "on 101\nbadsource 001\nclosed 1010\nlocked 0100\nbadlink 0001\nearthed 10000\nbadbus 00001\n"
	if text, e := plant.Show(p, s); e != api.OK || text != want {
		t.Error(text, e)
	}
	if u, e := plant.Read(p, want); e != api.OK || !sameState(u, s) {
		t.Error(u, e)
	}
	bare := api.Plant{Buses: 1}
	empty := "on \nbadsource \nclosed \nlocked \nbadlink \nearthed 1\nbadbus 0\n"
	s = api.State{Earthed: []bool{true}, BadBus: []bool{false}}
	if text, e := plant.Show(bare, s); e != api.OK || text != empty {
		t.Error(text, e)
	}
	if u, e := plant.Read(bare, empty); e != api.OK || !sameState(u, s) {
		t.Error(u, e)
	}
	if u, e := plant.Read(bare, strings.Replace(empty, "on ", "on", 1)); e != api.ErrForm || !zeroState(u) {
		t.Error("without the space", u, e)
	}
}

// TestReadForm changes each line of a right text into lines that are nearly right.
func TestReadForm(t *testing.T) {
	p := mixed()
	right := "on 101\nbadsource 001\nclosed 1010\nlocked 0100\nbadlink 0001\nearthed 10000\nbadbus 00001\n"
	lines := split(right)
	wrong := []string{
		right + "\n", right + " ", "\n" + right, right + right, right + "on 101\n", strings.Repeat("x", 1<<20),
		// the cable is open or locked
		strings.Replace(right, "closed 1", "closed 0", 1), strings.Replace(right, "locked 0", "locked 1", 1),
	}
	for i, line := range lines {
		word, digits, _ := strings.Cut(line, " ")
		for _, w := range []string{
			"", word, word + " ", line + "0", line[:len(line)-1], line + " ", " " + line, line + "\r", word + "  " + digits, word + digits, word + "\t" + digits,
			strings.ToUpper(word) + " " + digits, word + "x " + digits, word + " " + digits[1:] + "2", word + " " + digits[1:] + "-", word + " " + digits[1:] + "x", word + " " + digits[1:] + " ", digits,
		} {
			wrong = append(wrong, joined(with(lines, i, w)...))
		}
		wrong = append(wrong, joined(lines[:i]...), joined(lines[:i]...)+line, joined(slices.Delete(slices.Clone(lines), i, i+1)...))
		if i > 0 {
			wrong = append(wrong, joined(with(with(lines, i, lines[0]), 0, line)...))
		}
	}
	for _, text := range wrong {
		if u, e := plant.Read(p, text); e != api.ErrForm || !zeroState(u) {
			t.Errorf("%.80q: %v %d", text, u, e)
		}
	}
	if u, e := plant.Read(p, right); e != api.OK || zeroState(u) {
		t.Error(u, e)
	}
}

func TestShowAndReadErrors(t *testing.T) {
	p := mixed()
	s := start(t, p)
	text, _ := plant.Show(p, s)
	s.Closed[0] = false
	if text, e := plant.Show(p, s); e != api.ErrState || text != "" {
		t.Error(text, e)
	}
	p.Sources[0].Kind = 0
	if text, e := plant.Show(p, s); e != api.ErrSource || text != "" {
		t.Error(text, e)
	}
	for _, text := range []string{text, "", "x"} {
		if u, e := plant.Read(p, text); e != api.ErrSource || !zeroState(u) {
			t.Error(u, e)
		}
	}
}
