package place_test

import (
	"math"
	"math/rand/v2"
	"slices"
	"testing"

	"switchgear/api"
	"switchgear/place"
)

// allowed calls Allowed and compares; Spare must have an error if the placement is not allowed, and Verify, too.
func allowed(t *testing.T, name string, task place.Task, where []int, want bool) {
	t.Helper()
	if got, e := place.Allowed(task, where); e != api.OK || got != want {
		t.Errorf("%s: %v %d, not %v: %+v %v", name, got, e, want, task, where)
	}
	e := map[bool]api.Errno{true: api.OK, false: api.ErrPlace}[want]
	if l, ofSpare := place.Spare(task, where); ofSpare != e || want != (len(l) == len(task.Racks)) {
		t.Errorf("%s: Spare: %v %d", name, l, ofSpare)
	}
	if ofVerify := place.Verify(task, place.Placed{Where: where, Worth: -1}); ofVerify != map[bool]api.Errno{true: api.ErrFalse, false: api.ErrPlace}[want] {
		t.Errorf("%s: Verify: %d", name, ofVerify)
	}
}

func TestAllowedChapter(t *testing.T) {
	task := example()
	for _, c := range []struct {
		where []int
		want  bool
	}{
		{[]int{0, 0, 0}, false}, {[]int{0, 0, -1}, true}, {[]int{0, -1, 0}, true}, {[]int{-1, 0, 0}, true},
		{[]int{0, -1, -1}, true}, {[]int{-1, 0, -1}, true}, {[]int{-1, -1, 0}, true}, {[]int{-1, -1, -1}, true},
	} {
		allowed(t, "example 2", task, c.where, c.want)
	}
	task = place.Task{Jobs: jobs(2, grouped(1, job(1, 1, 1))), Racks: []place.Rack{rack(0, 10, 7), rack(0, 10, 7)}, Most: never}
	for _, c := range []struct {
		where []int
		want  bool
	}{
		{[]int{0, 0}, false}, {[]int{0, 1}, false}, {[]int{1, 0}, false}, {[]int{1, 1}, false},
		{[]int{0, -1}, true}, {[]int{1, -1}, true}, {[]int{-1, 0}, true}, {[]int{-1, 1}, true}, {[]int{-1, -1}, true},
	} {
		allowed(t, "example 3", task, c.where, c.want)
	}
}

// TestGroups has jobs of one group and of others in racks of one domain and of others.
func TestGroups(t *testing.T) {
	for _, c := range []struct {
		name    string
		groups  [3]int
		domains [2]int
		where   []int
		want    bool
	}{
		{"one group, one rack", [3]int{1, 1, 2}, [2]int{1, 2}, []int{0, 0, -1}, false},
		{"one group, the other rack", [3]int{1, 1, 2}, [2]int{1, 2}, []int{1, 1, -1}, false},
		{"one group, one domain", [3]int{1, 1, 2}, [2]int{3, 3}, []int{0, 1, -1}, false},
		{"one group, domain 0", [3]int{1, 1, 2}, [2]int{0, 0}, []int{0, 1, -1}, false},
		{"one group, other domains", [3]int{1, 1, 2}, [2]int{1, 2}, []int{0, 1, -1}, true},
		{"one group, domain 0 and another one", [3]int{1, 1, 2}, [2]int{0, 2}, []int{1, 0, -1}, true},
		{"one group, none is placed", [3]int{1, 1, 1}, [2]int{3, 3}, []int{-1, -1, -1}, true},
		{"one group, one is placed", [3]int{1, 1, 1}, [2]int{3, 3}, []int{-1, 1, -1}, true},
		{"the first and the last job", [3]int{4, 2, 4}, [2]int{3, 3}, []int{0, -1, 1}, false},
		{"the last two jobs", [3]int{4, 2, 2}, [2]int{3, 3}, []int{0, 1, 0}, false},
		{"the first two jobs", [3]int{2, 2, 4}, [2]int{3, 3}, []int{0, 1, 0}, false},
		{"three groups", [3]int{1, 2, 3}, [2]int{3, 3}, []int{0, 1, 0}, true},
		{"group 0 in one rack", [3]int{0, 0, 0}, [2]int{3, 3}, []int{0, 0, 0}, true},
		{"group 0 in one domain", [3]int{0, 0, 0}, [2]int{3, 3}, []int{0, 1, 0}, true},
		{"group 0 in domain 0", [3]int{0, 0, 0}, [2]int{0, 0}, []int{0, 1, 0}, true},
		{"group 0 and others", [3]int{0, 1, 0}, [2]int{0, 0}, []int{0, 0, 0}, true},
		{"group 100 and domain 100", [3]int{100, 0, 100}, [2]int{100, 100}, []int{0, 0, 1}, false},
		{"group 100, domains 99 and 100", [3]int{100, 0, 100}, [2]int{99, 100}, []int{0, 0, 1}, true},
		{"three jobs of a group, two domains", [3]int{5, 5, 5}, [2]int{1, 2}, []int{0, 1, 1}, false},
		{"three jobs of a group, two are placed", [3]int{5, 5, 5}, [2]int{1, 2}, []int{1, -1, 0}, true},
	} {
		task := place.Task{Racks: racks(2), Most: never}
		for _, g := range c.groups {
			task.Jobs = append(task.Jobs, grouped(g, job(1, 1, 1)))
		}
		for i, d := range c.domains {
			task.Racks[i].Domain = d
		}
		allowed(t, c.name, task, c.where, c.want)
		if want := tellAllowed(task, c.where); want != c.want {
			t.Error("the test is wrong:", c.name)
		}
	}
}

// TestAllowedRacks has needs and powers that one rack has room for, and another one has not.
func TestAllowedRacks(t *testing.T) {
	task := place.Task{
		Jobs:  []place.Job{needing(2, job(1, 10, 1)), needing(3, job(1, 20, 1)), needing(4, job(1, 30, 1, 40, 1))},
		Racks: []place.Rack{rack(5, 30, 0), rack(4, 30, 0), rack(100, 30, 0)},
		Most:  api.Ratio{N: 1, D: 2},
	}
	for _, c := range []struct {
		name  string
		where []int
		want  bool
	}{
		{"just", []int{0, 0, 1}, true},
		{"one by one", []int{0, 2, 1}, true},
		{"too much need", []int{1, 1, -1}, false},
		{"too much need in the last rack but one, enough room in the others", []int{-1, 1, 1}, false},
		{"the chance is just a half", []int{-1, -1, 2}, true},
		{"the chance is 1", []int{2, -1, 2}, false},
		{"the chance is 1 in the last rack", []int{-1, 0, 2}, true},
		{"all in one", []int{2, 2, 2}, false},
		{"none", []int{-1, -1, -1}, true},
		{"the last one", []int{-1, -1, 0}, true},
	} {
		allowed(t, c.name, task, c.where, c.want)
		if want := tellAllowed(task, c.where); want != c.want {
			t.Error("the test is wrong:", c.name)
		}
	}
	empty := place.Task{Racks: racks(5), Most: never}
	allowed(t, "no job", empty, nil, true)
	allowed(t, "no job", empty, []int{}, true)
}

// TestWhere has placements that are too short or too long, and numbers that are no racks.
func TestWhere(t *testing.T) {
	task := place.Task{Jobs: jobs(3, job(1, 1, 1)), Racks: racks(2), Most: never}
	for _, c := range []struct {
		where []int
		want  api.Errno
	}{
		{[]int{0, 1, -1}, api.OK}, {[]int{1, 1, 1}, api.OK}, {[]int{-1, -1, -1}, api.OK},
		{nil, api.ErrArg}, {[]int{}, api.ErrArg}, {[]int{0}, api.ErrArg}, {[]int{0, 0}, api.ErrArg}, {[]int{0, 0, 0, 0}, api.ErrArg}, {[]int{-1, -1, -1, -1}, api.ErrArg}, {make([]int, 1000), api.ErrArg},
		{[]int{2, 0, 0}, api.ErrArg}, {[]int{0, 2, 0}, api.ErrArg}, {[]int{0, 0, 2}, api.ErrArg}, {[]int{0, 0, 3}, api.ErrArg}, {[]int{0, 0, 5}, api.ErrArg}, {[]int{0, 0, math.MaxInt}, api.ErrArg},
		{[]int{-2, 0, 0}, api.ErrArg}, {[]int{0, -2, 0}, api.ErrArg}, {[]int{0, 0, -2}, api.ErrArg}, {[]int{0, 0, math.MinInt}, api.ErrArg},
	} {
		ok, ofAllowed := place.Allowed(task, c.where)
		l, ofSpare := place.Spare(task, c.where)
		if ok != (c.want == api.OK) || ofAllowed != c.want || ofSpare != c.want || c.want != api.OK && len(l) > 0 {
			t.Error(c.where, ok, ofAllowed, l, ofSpare)
		}
		want := map[api.Errno]api.Errno{api.OK: api.ErrFalse, api.ErrArg: api.ErrPlace}[c.want]
		if e := place.Verify(task, place.Placed{Where: c.where, Worth: -1}); e != want {
			t.Error("Verify", c.where, e)
		}
	}
	empty := place.Task{Racks: racks(2), Most: never}
	for _, where := range [][]int{{0}, {-1}, {0, 0}} {
		if ok, e := place.Allowed(empty, where); ok || e != api.ErrArg {
			t.Error("no job", where, ok, e)
		}
	}
}

// TestAllowedLarge has racks whose jobs have too many combinations, though all others have not.
func TestAllowedLarge(t *testing.T) {
	l := wides(512, 512, 512, 512, 512, 512, 512, 512)
	task := place.Task{Jobs: l, Racks: racks(2), Most: always}
	for _, c := range []struct {
		where []int
		want  api.Errno
	}{
		{[]int{0, 0, 0, 0, 1, 1, 1, 1}, api.OK},
		{[]int{0, 1, 0, 1, 0, 1, 0, 1}, api.OK},
		{[]int{0, 0, 0, 0, -1, -1, -1, -1}, api.OK},
		{[]int{-1, -1, -1, -1, -1, -1, -1, -1}, api.OK},
		{[]int{0, 0, 0, 0, 0, 1, 1, 1}, api.ErrLarge},
		{[]int{1, 0, 1, 0, 1, 0, 1, 1}, api.ErrLarge},
		{[]int{0, 0, 0, 0, 0, 0, 0, 0}, api.ErrLarge},
		{[]int{1, 1, 1, 1, 1, 1, 1, 1}, api.ErrLarge},
		{[]int{1, 1, 1, 1, 1, 1, 1, -1}, api.ErrLarge},
		{[]int{1, 1, 1, 1, 1, 1, 1, 2}, api.ErrArg},
	} {
		ok, e := place.Allowed(task, c.where)
		_, ofSpare := place.Spare(task, c.where)
		if ok != (c.want == api.OK) || e != c.want || ofSpare != c.want {
			t.Error(c.where, ok, e, ofSpare)
		}
		// What is not allowed anyway does not matter before that.
		full := copied(task)
		full.Jobs[0], full.Most = needing(1, full.Jobs[0]), never
		full.Racks[0].Room, full.Racks[1].Room = [3]int{}, [3]int{}
		ok, e = place.Allowed(full, c.where)
		if e != c.want || ok != (e == api.OK && c.where[0] == -1) {
			t.Error("not allowed", c.where, ok, e)
		}
		// All jobs together have too many, wherever they are.
		if e := place.Verify(task, place.Placed{Where: c.where, Proof: []bool{true}}); e != api.ErrLarge {
			t.Error("Verify", c.where, e)
		}
	}
	if p, e := place.Best(task); e != api.ErrLarge || !samePlaced(p, place.Placed{}) {
		t.Error("Best", p, e)
	}
}

// spare calls Spare and compares.
func spare(t *testing.T, name string, task place.Task, where []int, want [][4]int) {
	t.Helper()
	if l, e := place.Spare(task, where); e != api.OK || !slices.Equal(l, want) {
		t.Errorf("%s: %v %d, not %v", name, l, e, want)
	}
}

func TestSpare(t *testing.T) {
	spare(t, "example 2", example(), []int{0, 0, -1}, [][4]int{{1, 1, 1, 0}})
	spare(t, "example 2", example(), []int{-1, -1, 0}, [][4]int{{2, 2, 2, 200}})
	spare(t, "example 2, none is placed", example(), []int{-1, -1, -1}, [][4]int{{3, 3, 3, 400}})
	task := example()
	task.Most = always
	spare(t, "below 0", task, []int{0, 0, 0}, [][4]int{{0, 0, 0, -200}})
	task.Racks[0].Cap = 0
	spare(t, "far below 0", task, []int{0, 0, 0}, [][4]int{{0, 0, 0, -600}})
	task = place.Task{
		Jobs:  []place.Job{{Need: [3]int{1, 2, 3}, Draws: []place.Draw{{1, 1}, {7, 1}, {900, 1}}}, {Need: [3]int{10, 20, 30}, Draws: []place.Draw{{0, 64}}}, {Need: [3]int{100, 0, 5}, Draws: []place.Draw{{1000, 1}}}},
		Racks: []place.Rack{{Room: [3]int{11, 25, 50}, Cap: 900}, {Room: [3]int{1000, 0, 5}, Cap: 10000}, {Room: [3]int{4, 5, 6}, Cap: 7}},
		Most:  never,
	}
	spare(t, "three racks", task, []int{0, 0, 1}, [][4]int{{0, 3, 17, 0}, {900, 0, 0, 9000}, {4, 5, 6, 7}})
	spare(t, "three racks", task, []int{-1, 0, -1}, [][4]int{{1, 5, 20, 900}, {1000, 0, 5, 10000}, {4, 5, 6, 7}})
	great := place.Task{Jobs: jobs(8, job(0, 0, 31, 1000, 1)), Racks: []place.Rack{rack(0, 0, 0)}, Most: always}
	spare(t, "eight jobs at the limit", great, make([]int, 8), [][4]int{{0, 0, 0, -8000}})
	spare(t, "no job", place.Task{Racks: racks(5), Most: never}, nil, slices.Repeat([][4]int{{1000000, 1000000, 1000000, 10000}}, 5))
	// The rarest power counts, too.
	rare := place.Task{Jobs: jobs(2, job(0, 1, 64, 500, 1)), Racks: []place.Rack{rack(0, 501, 0)}, Most: tenth}
	spare(t, "rare", rare, []int{0, 0}, [][4]int{{0, 0, 0, -499}})
}

// TestAllowedRandom compares with the chapter's words, and what is left with what the jobs have.
func TestAllowedRandom(t *testing.T) {
	r := rand.New(rand.NewPCG(9, 3))
	met := map[string]int{}
	for range 6000 {
		task := randomTask(r, 5, 4)
		where := randomWhere(r, task)
		want := tellAllowed(task, where)
		allowed(t, "random", task, where, want)
		if len(task.Jobs) > 1 {
			met[map[bool]string{true: "yes", false: "no"}[want]]++
		}
		if !want {
			continue
		}
		l, _ := place.Spare(task, where)
		for i, k := range task.Racks {
			in := inRack(task, where, i)
			counts, _ := tellSums(in)
			greatest := 0
			for sum := range counts {
				greatest = max(greatest, sum)
			}
			if l[i][3] != k.Cap-greatest {
				t.Fatalf("%+v %v: %v", task, where, l)
			}
			if l[i][3] < 0 {
				met["below 0"]++
			}
			for kind := range 3 {
				rest := k.Room[kind]
				for _, j := range in {
					rest -= j.Need[kind]
				}
				if l[i][kind] != rest || rest < 0 {
					t.Fatalf("%+v %v: %v", task, where, l)
				}
			}
		}
	}
	for _, name := range []string{"yes", "no", "below 0"} {
		if met[name] < 100 {
			t.Error("met:", name, met[name])
		}
	}
}
