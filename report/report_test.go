package report_test

import (
	"math/rand"
	"strconv"
	"strings"
	"testing"

	"headgate/api"
	"headgate/report"
	"headgate/script"
	"headgate/varint"
)

const one = "cluster parts 1 workers 1 blocks 4000 most 5 size 10 hop 10 late 0;\n"

func text(t *testing.T, s string) string {
	t.Helper()
	r, line, column, e := report.Text(s)
	if line != 0 || column != 0 || e != api.OK {
		t.Fatalf("%q: %d %d %d", s, line, column, e)
	}
	return r
}

// lines puts lines together, each followed by a line feed.
func lines(l ...string) string {
	return strings.Join(l, "\n") + "\n"
}

func TestName(t *testing.T) {
	names := strings.Fields("ok argument form none power full range sequence fenced state wait member stale owner down")
	for e, w := range names {
		if s := report.Name(api.Errno(e)); s != w {
			t.Error(e, s)
		}
	}
	for e, w := range map[api.Errno]string{15: "error 15", 99: "error 99", -1: "error -1", 255: "error 255"} {
		if s := report.Name(e); s != w {
			t.Error(e, s)
		}
	}
	if report.Name(api.ErrDown) != "down" || report.Name(api.ErrSeq) != "sequence" {
		t.Error("names")
	}
}

func TestTable(t *testing.T) {
	for _, x := range []struct {
		rows [][]string
		w    string
	}{
		{[][]string{{"a", "bbb"}, {"cc"}, {"d", "e", "f"}}, " a  bbb\ncc\n d    e  f\n"},
		{nil, ""}, {[][]string{{}}, "\n"}, {[][]string{{"a"}, nil, {"bb"}}, " a\n\nbb\n"}, {[][]string{{"", ""}}, "  \n"}, {[][]string{{"é", "x"}, {"aaa", "y"}}, " é  x\naaa  y\n"},
	} {
		if s := report.Table(x.rows...); s != x.w {
			t.Errorf("%q, not %q", s, x.w)
		}
	}
}

func TestExamples(t *testing.T) {
	want := lines("input 0: 2 records, 2 committed, 1 windows", "input  key  from  count  sum  min  max", "    0    1     0      1    5    5    5", "sums: half up to 5, most up to 5", "keys: 1 1")
	put := "input 0: 1 at 3 value 5, 1 at 12 value 7;\n"
	if s := text(t, one+put+"rest 60;"); s != want {
		t.Error(s)
	}
	if s := text(t, one+put+"serve 1; twice 0; deliver 0; crash; start; rest 60;"); s != want {
		t.Error(s)
	}
	if s := text(t, one+put+"serve 2; deliver 5; start; begin 1; kill 1; kill 1; rest 60;"); s != lines("order 2: argument", "order 3: range", "order 4: state", "order 5: state", "order 7: down")+want {
		t.Error(s)
	}
	if s := text(t, one); s != "input 0: 0 records, 0 committed, 0 windows\n" {
		t.Error(s)
	}
	if s := text(t, one+put+"rest 2;"); s != lines("order 2: not done", "input 0: 2 records, 0 committed, 0 windows") {
		t.Error(s)
	}
	// Of a broker that is down, what there will be is told, with its windows.
	if s := text(t, one+put+"rest 60; crash;"); s != want {
		t.Error(s)
	}
	if s := text(t, one+put+"rest 60; fuse 1; input 0: 1 at 50 value 1; tick;"); s != lines("order 4: power")+want {
		t.Error(s)
	}
}

func TestWindows(t *testing.T) {
	s := text(t, `cluster parts 2 workers 2 blocks 4000 most 5 size 10 hop 10 late 0;
		alert sum > 5 for 1 clear 1; alert count < 0 for 1 clear 1; alert max >= 5 for 2 clear 1;
		input 1: 2 at 3 value 5, 1 at 12 value 7, 2 at 30 value 1;
		input 0: 1 at 3 value 5, 1 at 12 value 7, 2 at 33 value -100, 1 at 40 value 3, 1 at 1000 value 3;
		rest 200;`)
	want := lines(
		"input 0: 5 records, 5 committed, 4 windows",
		"input 1: 3 records, 3 committed, 2 windows",
		"input  key  from  count   sum   min   max",
		"    0    1     0      1     5     5     5",
		"    0    1    10      1     7     7     7",
		"    0    2    30      1  -100  -100  -100",
		"    0    1    40      1     3     3     3",
		"    1    2     0      1     5     5     5",
		"    1    1    10      1     7     7     7",
		"rule 1: key 1 on at 10",
		"rule 1: key 1 off at 40",
		"rule 1: key 1 on at 10",
		"rule 3: key 1 on at 10",
		"rule 3: key 1 off at 40",
		"sums: half up to 5, most up to 7",
		"keys: 1 4, 2 2",
	)
	if s != want {
		t.Errorf("%s\nnot\n%s", s, want)
	}
	// The buckets' greatest numbers, and the three keys with most windows.
	s = text(t, one+"input 0: 1 at 1 value 1000, 2 at 1 value 33, 3 at 1 value 33, 4 at 1 value 33, 4 at 11 value 1000, 3 at 11 value 1000, 9 at 21 value 0; rest 100;")
	if !strings.HasSuffix(s, "sums: half up to 33, most up to 1023\nkeys: 3 2, 4 2, 1 1\n") {
		t.Error(s)
	}
}

// TestMany has so many windows that the hundredth part of them is one, and more keys than tallies are kept.
func TestMany(t *testing.T) {
	x, _, _, _ := script.Parse(one)
	x.C.Most = 64
	var l []api.Record
	for i := range 151 {
		v := 1
		if i >= 148 {
			v = 1000 * (i - 147)
		}
		l = append(l, api.Record{Time: 10 * i, Text: varint.Put(v)})
	}
	for len(l) > 0 {
		n := min(len(l), 64)
		x.L = append(x.L, api.Order{S: api.Step{Kind: api.StepInput, L: l[:n]}})
		l = l[n:]
	}
	x.L = append(x.L, api.Order{Rest: true, Rounds: 3000})
	s, e := report.Run(x)
	// Of 150 windows the last one is open yet: 148 sums of 1, then 1000 and 2000.
	if !strings.HasSuffix(s, "sums: half up to 1, most up to 1023\nkeys: 0 150\n") || e != api.OK {
		t.Error(s[max(0, len(s)-200):], e)
	}
	// The ninth and the tenth key take the places of the smallest ones.
	put := "input 0: 1 at 0 value 1"
	for k := 2; k <= 10; k++ {
		put += ", " + strconv.Itoa(k) + " at 0 value 1"
	}
	s = text(t, one+put+", 77 at 10 value 1; rest 99;")
	if !strings.HasSuffix(s, "keys: 9 2, 10 2, 3 1\n") {
		t.Error(s)
	}
}

func TestRuleFull(t *testing.T) {
	s := "cluster parts 1 workers 1 blocks 4000 most 64 size 10 hop 10 late 0; alert count > 0 for 1 clear 1;"
	for k := range 10 {
		s += " input 0: 0 at " + strconv.Itoa(100*k) + " value 1"
		for i := range 6 {
			s += ", " + strconv.Itoa(10*k+i+1) + " at " + strconv.Itoa(100*k) + " value 1"
		}
		s += ";"
	}
	s += " input 0: 99 at 1000 value 1, 100 at 2000 value 1, 101 at 2001 value 1, 102 at 3000 value 1, 103 at 4000 value 1, 104 at 5000 value 1;"
	s += " rest 300;"
	r := text(t, s)
	if !strings.Contains(r, "\nrule 1: full\nsums: ") || strings.Contains(r, "rule 1: key") {
		t.Error(r)
	}
}

func TestErrors(t *testing.T) {
	for _, x := range []struct {
		s            string
		line, column int
		e            api.Errno
	}{
		{one + "tick;\nserve;", 3, 6, api.ErrForm}, {"", 1, 1, api.ErrForm}, {one + "rest 3001;", 0, 0, api.ErrArg}, {"?", 1, 1, api.ErrForm}, {strings.Repeat(" ", 5000), 1, 1, api.ErrArg},
	} {
		if s, line, column, e := report.Text(x.s); s != "" || line != x.line || column != x.column || e != x.e {
			t.Errorf("%.40q: %q %d %d %d", x.s, s, line, column, e)
		}
	}
	if s, e := report.Run(api.Script{}); s != "" || e != api.ErrArg {
		t.Error(s, e)
	}
	x, _, _, _ := script.Parse(one)
	x.L = []api.Order{{Rest: true, Rounds: 3001}}
	if s, e := report.Run(x); s != "" || e != api.ErrArg {
		t.Error(s, e)
	}
}

// faults tells random orders that put nothing into inputs.
func faults(r *rand.Rand, n int) []api.Order {
	var l []api.Order
	for range n {
		s := api.Step{Kind: []int{2, 2, 2, 2, 3, 3, 3, 3, 3, 4, 5, 6, 7, 8, 9, 9, 10, 11, 11, 12}[r.Intn(20)], N: r.Intn(4)}
		switch s.Kind {
		case api.StepTick:
			s.N = 0
		case api.StepFuse:
			s.N = r.Intn(20) - 1
		case api.StepCrash, api.StepStart:
			s.N = 0
			for range r.Intn(12) {
				s.Keep = append(s.Keep, r.Intn(99))
			}
		}
		l = append(l, api.Order{S: s})
	}
	return l
}

// TestFaults: nothing is ever told to be not sound, and behind a rest the windows are the same, whatever went wrong.
func TestFaults(t *testing.T) {
	r := rand.New(rand.NewSource(1))
	for range 40 {
		s := api.Script{C: api.Config{Parts: 2, Workers: 1 + r.Intn(3), Blocks: 6000, Most: 1 + r.Intn(6), G: api.Grid{Size: 10, Hop: 5, Late: 4}, Sticky: r.Intn(2) == 0}}
		s.Rules = []api.Rule{{Field: api.FieldSum, Op: api.OpGt, Limit: 50, For: 2, Clear: 1}}
		for i := range 20 {
			var l []api.Record
			for range 1 + r.Intn(3) {
				l = append(l, api.Record{Key: r.Intn(3), Time: 3*i + r.Intn(12), Text: varint.Put(r.Intn(200) - 50)})
			}
			s.L = append(s.L, api.Order{S: api.Step{Kind: api.StepInput, N: i % 2, L: l}})
		}
		calm := s
		calm.L = append(append([]api.Order{}, s.L...), api.Order{Rest: true, Rounds: 3000})
		want, e := report.Run(calm)
		if e != api.OK || strings.Contains(want, "order") || !strings.Contains(want, "sums") {
			t.Fatal(want, e)
		}
		for range 4 {
			wild := s
			wild.L = append(append([]api.Order{}, s.L...), faults(r, 150)...)
			for _, rest := range []bool{false, true} {
				if rest {
					wild.L = append(wild.L, api.Order{Rest: true, Rounds: 3000})
				}
				got, e := report.Run(wild)
				if e != api.OK || strings.Contains(got, "sound") || strings.Contains(got, "closed") {
					t.Fatal(got, e)
				}
				if _, behind, _ := strings.Cut(got, "input 0: "); rest && "input 0: "+behind != want {
					t.Fatalf("%s\nnot\n%s", got, want)
				}
			}
		}
	}
}

// TestSame: a script comes to the same each time.
func TestSame(t *testing.T) {
	r := rand.New(rand.NewSource(2))
	for range 10 {
		x, _, _, _ := script.Parse(one + "input 0: 1 at 3 value 5, 1 at 12 value 7;")
		x.L = append(x.L, faults(r, 100)...)
		a, _ := report.Run(x)
		if b, e := report.Run(x); a != b || e != api.OK {
			t.Fatal(a, b, e)
		}
	}
}
