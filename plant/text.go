package plant

import (
	"slices"
	"strconv"
	"strings"

	"switchgear/api"
)

// The lines of a text in the order in which they stand.
const (
	plantLine = iota
	sourceLine
	linkLine
	rackLine
)

// Format returns the text of a plant.
func Format(p api.Plant) (string, api.Errno) {
	if e := Check(p); e != api.OK {
		return "", e
	}
	var text strings.Builder
	line := func(words ...string) {
		text.WriteString(strings.Join(words, " "))
		text.WriteByte('\n')
	}
	line("plant", spaced(p.Buses))
	sources, links := sourceWords(), linkWords()
	for _, x := range p.Sources {
		line("source", spaced(x.Bus), sources[x.Kind], spaced(x.Power, x.Sync, x.Ohm))
	}
	for _, x := range p.Links {
		words := []string{"link", spaced(x.A, x.B), links[x.Kind], spaced(x.Most, x.Ohm)}
		for _, t := range x.Trip {
			words = append(words, strconv.Itoa(t.Amps)+":"+strconv.Itoa(t.Millis))
		}
		line(words...)
	}
	for _, x := range p.Racks {
		line("rack", spaced(x.Feeds[0], x.Feeds[1], x.Power, x.Paths))
	}
	return text.String(), api.OK
}

// spaced returns numbers with a space between them.
func spaced(numbers ...int) string {
	var words []string
	for _, n := range numbers {
		words = append(words, strconv.Itoa(n))
	}
	return strings.Join(words, " ")
}

// Parse returns the plant of a text.
func Parse(text string) (p api.Plant, index int, e api.Errno) {
	if len(text) > api.MaxText {
		return api.Plant{}, 0, api.ErrMany
	}
	r := reader{sources: turned(sourceWords()), links: turned(linkWords())}
	defer func() {
		if recover() != nil {
			p, index, e = api.Plant{}, r.index, api.ErrForm
		}
	}()
	r.lines(text)
	if e := Check(r.plant); e != api.OK {
		return api.Plant{}, r.index, e
	}
	return r.plant, 0, api.OK
}

// sourceWords returns the words of the kinds of sources.
func sourceWords() map[api.SourceKind]string {
	return map[api.SourceKind]string{api.Grid: "grid", api.Generator: "generator", api.Battery: "battery"}
}

// linkWords returns the words of the kinds of links.
func linkWords() map[api.LinkKind]string {
	return map[api.LinkKind]string{api.Cable: "cable", api.Switch: "switch", api.Breaker: "breaker"}
}

// turned returns the kinds of words.
func turned[K comparable](words map[K]string) map[string]K {
	kinds := map[string]K{}
	for kind, word := range words {
		kinds[word] = kind
	}
	return kinds
}

// reader reads the text of a plant. Its methods panic at a line that has not the form; index is this line then.
type reader struct {
	sources map[string]api.SourceKind
	links   map[string]api.LinkKind
	plant   api.Plant
	index   int
	last    int
}

// lines reads all lines; index is their number in the end.
func (r *reader) lines(text string) {
	for rest := text; rest != "" || r.index == 0; r.index++ {
		line, after, ended := strings.Cut(rest, "\n")
		must(ended)
		r.line(strings.Split(line, " "))
		rest = after
	}
}

// line reads the words of a line.
func (r *reader) line(words []string) {
	kind := slices.Index([]string{"plant", "source", "link", "rack"}, words[0])
	must(kind >= r.last && (kind == plantLine) == (r.index == 0))
	r.last = kind
	words = words[1:]
	switch kind {
	case plantLine:
		r.plant.Buses = numbers(words, 1)[0]
	case sourceLine:
		r.source(words)
	case linkLine:
		r.link(words)
	case rackLine:
		n := numbers(words, 4)
		r.plant.Racks = append(r.plant.Racks, api.Rack{Feeds: [2]int{n[0], n[1]}, Power: n[2], Paths: n[3]})
	}
}

// source reads a source: its bus, its kind, and three numbers.
func (r *reader) source(words []string) {
	must(len(words) == 5)
	kind, known := r.sources[words[1]]
	must(known)
	n := numbers(words[2:], 3)
	r.plant.Sources = append(r.plant.Sources, api.Source{Bus: number(words[0]), Kind: kind, Power: n[0], Sync: n[1], Ohm: n[2]})
}

// link reads a link: its buses, its kind, two numbers, and its trips.
func (r *reader) link(words []string) {
	must(len(words) >= 5)
	kind, known := r.links[words[2]]
	must(known)
	ends, n := numbers(words[:2], 2), numbers(words[3:5], 2)
	x := api.Link{A: ends[0], B: ends[1], Kind: kind, Most: n[0], Ohm: n[1]}
	for _, word := range words[5:] {
		t := numbers(strings.Split(word, ":"), 2)
		x.Trip = append(x.Trip, api.Trip{Amps: t[0], Millis: t[1]})
	}
	r.plant.Links = append(r.plant.Links, x)
}

// must panics if a line has not the form.
func must(form bool) {
	if !form {
		panic(api.ErrForm)
	}
}

// numbers returns so many numbers.
func numbers(words []string, count int) []int {
	must(len(words) == count)
	list := make([]int, count)
	for i, word := range words {
		list[i] = number(word)
	}
	return list
}

// number returns the number of a word of at most 9 digits.
func number(word string) int {
	digits := strings.TrimPrefix(word, "-")
	must(len(digits) <= 9)
	n, err := strconv.Atoi(word)
	// Atoi allows signs and zeros in front that Itoa does not write.
	must(err == nil && strconv.Itoa(n) == word)
	return n
}
