package script_test

import (
	"math"
	"math/rand"
	"reflect"
	"slices"
	"strings"
	"testing"

	"headgate/api"
	"headgate/pipe"
	"headgate/script"
	"headgate/varint"
)

const cluster = "cluster parts 2 workers 1 blocks 4000 most 5 size 10 hop 5 late 2"

func config() api.Config {
	return api.Config{Parts: 2, Workers: 1, Blocks: 4000, Most: 5, G: api.Grid{Size: 10, Hop: 5, Late: 2}}
}

func rec(key, time, v int) api.Record {
	return api.Record{Key: key, Time: time, Text: varint.Put(v)}
}

func step(kind, n int) api.Order {
	return api.Order{S: api.Step{Kind: kind, N: n}}
}

func input(n int, l ...api.Record) api.Order {
	return api.Order{S: api.Step{Kind: api.StepInput, N: n, L: l}}
}

func keep(kind int, l ...int) api.Order {
	return api.Order{S: api.Step{Kind: kind, Keep: l}}
}

// same compares scripts; nil and empty lists are alike.
func same(a, b api.Script) bool {
	q, _ := pipe.Print(a.C.Q)
	w, _ := pipe.Print(b.C.Q)
	return q == w && reflect.DeepEqual(plain(a), plain(b))
}

// plain tells a script without its query, in which no list is nil.
func plain(s api.Script) api.Script {
	x := api.Script{C: s.C}
	x.C.Q = api.Query{}
	x.Rules = append([]api.Rule{}, s.Rules...)
	x.L = []api.Order{}
	for _, o := range s.L {
		o.S.L = append([]api.Record{}, o.S.L...)
		o.S.Keep = append([]int{}, o.S.Keep...)
		x.L = append(x.L, o)
	}
	return x
}

func TestText(t *testing.T) {
	sticky := config()
	sticky.Sticky = true
	sticky.Q.When = api.Node{Op: api.OpGt, L: []api.Node{{Op: api.OpValue}, {Op: api.OpNumber}}}
	rules := []api.Rule{{Field: api.FieldSum, Op: api.OpGt, Limit: -10, For: 2, Clear: 1}, {Field: api.FieldMax, Op: api.OpLe, Limit: 5, For: 1, Clear: 3}}
	for i, x := range []struct {
		s     string
		w     api.Script
		print string
	}{
		{cluster + ";", api.Script{C: config()}, cluster + ";\n"},
		{cluster + " sticky query when value > 0;", api.Script{C: sticky}, cluster + " sticky query when value > 0;\n"},
		{cluster + " query;", api.Script{C: config()}, cluster + ";\n"},
		{cluster + "; alert sum>-10 for 2 clear 1;alert max <= 5 for 1 clear 3;", api.Script{C: config(), Rules: rules}, cluster + ";\nalert sum > -10 for 2 clear 1;\nalert max <= 5 for 1 clear 3;\n"},
		{cluster + "; rest 50; rest 0; rest 3000;", api.Script{C: config(), L: []api.Order{{Rest: true, Rounds: 50}, {Rest: true}, {Rest: true, Rounds: 3000}}}, cluster + ";\nrest 50;\nrest 0;\nrest 3000;\n"},
		{cluster + ";input 0:1 at 3 value 5,2 at 4 value - 7 ; input 9 : 0 at 0 value -0;", api.Script{C: config(), L: []api.Order{input(0, rec(1, 3, 5), rec(2, 4, -7)), input(9, rec(0, 0, 0))}}, cluster + ";\ninput 0: 1 at 3 value 5, 2 at 4 value -7;\ninput 9: 0 at 0 value 0;\n"},
		{cluster + "; serve 1; deliver 2; drop 3; twice 4; kill 5; begin 6; leave 7;", api.Script{C: config(), L: []api.Order{step(2, 1), step(3, 2), step(4, 3), step(5, 4), step(10, 5), step(11, 6), step(12, 7)}}, cluster + ";\nserve 1;\ndeliver 2;\ndrop 3;\ntwice 4;\nkill 5;\nbegin 6;\nleave 7;\n"},
		{cluster + "; tick # all\n; fuse 9; fuse off; crash; crash keep 5, 0,7; start keep 1; start;", api.Script{C: config(), L: []api.Order{step(6, 0), step(7, 9), step(7, -1), step(8, 0), keep(8, 5, 0, 7), keep(9, 1), step(9, 0)}}, cluster + ";\ntick;\nfuse 9;\nfuse off;\ncrash;\ncrash keep 5, 0, 7;\nstart keep 1;\nstart;\n"},
		{cluster + "; input 0: 1048576 at 1099511627776 value 9223372036854775807, 0 at 0 value -9223372036854775807;", api.Script{C: config(), L: []api.Order{input(0, rec(api.MaxKey, api.MaxNum, math.MaxInt), rec(0, 0, -math.MaxInt))}}, cluster + ";\ninput 0: 1048576 at 1099511627776 value 9223372036854775807, 0 at 0 value -9223372036854775807;\n"},
	} {
		s, line, column, e := script.Parse(x.s)
		if !same(s, x.w) || line != 0 || column != 0 || e != api.OK {
			t.Errorf("%d: %v %d %d %d", i, s, line, column, e)
		}
		if text, e := script.Print(x.w); text != x.print || e != api.OK {
			t.Errorf("%d: %q %d", i, text, e)
		}
		if s, _, _, e := script.Parse(x.print); !same(s, x.w) || e != api.OK {
			t.Errorf("%d: %v %d", i, s, e)
		}
	}
}

func TestParseWrong(t *testing.T) {
	long := cluster + "; input 0: " + strings.Repeat("1 at 1 value 1, ", 64) + "1 at 1 value 1;"
	for _, x := range []struct {
		s            string
		line, column int
		e            api.Errno
	}{
		{cluster + ";\nserve;", 2, 6, api.ErrForm},
		{cluster + ";\nrest 3001;", 0, 0, api.ErrArg},
		{"", 1, 1, api.ErrForm}, {" # x\n", 2, 1, api.ErrForm}, {"rest 5;", 1, 1, api.ErrForm}, {"cluster", 1, 8, api.ErrForm}, {"cluster;", 1, 8, api.ErrForm}, {"cluster workers 1", 1, 9, api.ErrForm}, {"cluster 5", 1, 9, api.ErrForm}, {"cluster parts -2", 1, 15, api.ErrForm},
		{cluster, 1, 66, api.ErrForm}, {cluster + "\nfoo;", 2, 1, api.ErrForm}, {cluster + "\nquery sticky;", 2, 7, api.ErrForm},
		{cluster + "\nquery when value >;", 2, 19, api.ErrForm}, {cluster + "\nquery when 1 2;", 2, 14, api.ErrForm}, {cluster + "\nquery key 1 when 2;", 2, 13, api.ErrForm}, {cluster + "\nquery when", 2, 11, api.ErrForm}, {cluster + "\nquery when " + strings.Repeat("-", 33) + "1;", 2, 44, api.ErrFull},
		{cluster + "\nquery when " + strings.Repeat("1 < 2 + 3 * (", 30) + "4" + strings.Repeat(")", 30) + ";", 0, 0, api.ErrArg},
		{cluster + ";\n alert max > 5 for 1 clear 1001;", 2, 2, api.ErrForm}, {cluster + ";\n alert max > 5 for 1;", 2, 2, api.ErrForm}, {cluster + ";\n alert", 2, 2, api.ErrForm}, {cluster + ";\nalert max > 5 for 1 clear 1 1;", 2, 29, api.ErrForm},
		{cluster + ";\ntick; alert max > 5 for 1 clear 1;", 2, 7, api.ErrForm},
		{cluster + ";;", 1, 67, api.ErrForm}, {cluster + ";\ntick", 2, 5, api.ErrForm}, {cluster + ";\ntick 5;", 2, 6, api.ErrForm}, {cluster + ";\nfoo;", 2, 1, api.ErrForm}, {cluster + ";\n7;", 2, 1, api.ErrForm}, {cluster + ";\n,;", 2, 1, api.ErrForm},
		{cluster + ";\nrest;", 2, 5, api.ErrForm}, {cluster + ";\nrest off;", 2, 6, api.ErrForm}, {cluster + ";\nfuse;", 2, 5, api.ErrForm}, {cluster + ";\nfuse -1;", 2, 6, api.ErrForm}, {cluster + ";\nfuse on;", 2, 6, api.ErrForm},
		{cluster + ";\ncrash 5;", 2, 7, api.ErrForm}, {cluster + ";\ncrash keep;", 2, 11, api.ErrForm}, {cluster + ";\ncrash keep 1,;", 2, 14, api.ErrForm}, {cluster + ";\nstart keep 1 2;", 2, 14, api.ErrForm}, {cluster + ";\nserve 1, 2;", 2, 8, api.ErrForm},
		{cluster + ";\ninput;", 2, 6, api.ErrForm}, {cluster + ";\ninput 0;", 2, 8, api.ErrForm}, {cluster + ";\ninput 0:;", 2, 9, api.ErrForm}, {cluster + ";\ninput 0: 1;", 2, 11, api.ErrForm}, {cluster + ";\ninput 0: 1 at;", 2, 14, api.ErrForm}, {cluster + ";\ninput 0: 1 at 2;", 2, 16, api.ErrForm}, {cluster + ";\ninput 0: 1 at 2 value;", 2, 22, api.ErrForm}, {cluster + ";\ninput 0: 1 at 2 value --3;", 2, 24, api.ErrForm}, {cluster + ";\ninput 0: 1 at 2 value 3,;", 2, 25, api.ErrForm}, {cluster + ";\ninput 0: 1 at 2 value 3 4;", 2, 25, api.ErrForm}, {cluster + ";\ninput 0: -1 at 2 value 3;", 2, 10, api.ErrForm},
		{cluster + ";\nserve 1;\n  ?", 3, 3, api.ErrForm}, {cluster + ";\nserve;\n  ?", 3, 3, api.ErrForm}, {cluster + ";\nserve 99999999999999999999;", 2, 7, api.ErrRange}, {strings.Repeat("\n", 4097), 1, 1, api.ErrArg},
		{"cluster parts 5 workers 1 blocks 4000 most 5 size 10 hop 5 late 2;", 0, 0, api.ErrArg}, {"cluster parts 1 workers 1 blocks 4000 most 5 size 10 hop 3 late 2;", 0, 0, api.ErrArg}, {"cluster parts 5 workers 1 blocks 4000 most 5 size 10 hop 5 late 2; serve;", 1, 73, api.ErrForm},
		{cluster + ";\nserve 1099511627777;", 0, 0, api.ErrArg}, {cluster + ";\nfuse 1099511627777;", 0, 0, api.ErrArg}, {cluster + ";\ncrash keep 1099511627777;", 0, 0, api.ErrArg}, {cluster + ";\ninput 0: 1048577 at 1 value 1;", 0, 0, api.ErrArg}, {cluster + ";\ninput 0: 1 at 1099511627777 value 1;", 0, 0, api.ErrArg},
		{long, 0, 0, api.ErrArg}, {cluster + ";" + strings.Repeat("tick;", 201), 0, 0, api.ErrArg}, {cluster + ";" + strings.Repeat("alert max > 5 for 1 clear 1;", 9), 0, 0, api.ErrArg}, {cluster + "; crash keep " + strings.Repeat("1,", 64) + "1;", 0, 0, api.ErrArg},
	} {
		s, line, column, e := script.Parse(x.s)
		if !reflect.DeepEqual(s, api.Script{}) || line != x.line || column != x.column || e != x.e {
			t.Errorf("%q: %d %d %d, not %d %d %d", x.s[min(len(x.s), 60):], line, column, e, x.line, x.column, x.e)
		}
	}
	for _, s := range []string{long[:len(long)-17] + ";", cluster + ";" + strings.Repeat("tick;", 200), cluster + ";" + strings.Repeat("alert max > 5 for 1 clear 1;", 8), cluster + "; crash keep " + strings.Repeat("1,", 63) + "1;"} {
		if _, line, column, e := script.Parse(s); line != 0 || column != 0 || e != api.OK {
			t.Errorf("%q: %d %d %d", s[60:], line, column, e)
		}
	}
}

func TestCheck(t *testing.T) {
	many := func(n int) []api.Record { return slices.Repeat([]api.Record{rec(1, 1, 1)}, n) }
	for i, x := range []struct {
		o api.Order
		e api.Errno
	}{
		{api.Order{Rest: true}, api.OK}, {api.Order{Rest: true, Rounds: 3000}, api.OK}, {api.Order{Rest: true, Rounds: 3001}, api.ErrArg}, {api.Order{Rest: true, Rounds: -1}, api.ErrArg},
		{api.Order{Rest: true, S: api.Step{Kind: 6}}, api.ErrArg}, {api.Order{Rest: true, S: api.Step{N: 1}}, api.ErrArg}, {api.Order{Rest: true, S: api.Step{L: many(1)}}, api.ErrArg}, {api.Order{Rest: true, S: api.Step{Keep: []int{0}}}, api.ErrArg}, {api.Order{Rest: true, S: api.Step{L: []api.Record{}, Keep: []int{}}}, api.OK},
		{api.Order{}, api.ErrArg}, {step(0, 1), api.ErrArg}, {step(13, 1), api.ErrArg}, {step(-1, 1), api.ErrArg}, {api.Order{Rounds: 1, S: api.Step{Kind: 6}}, api.ErrArg}, {api.Order{Rounds: -1, S: api.Step{Kind: 6}}, api.ErrArg},
		{step(2, 0), api.OK}, {step(2, api.MaxNum), api.OK}, {step(2, api.MaxNum+1), api.ErrArg}, {step(2, -1), api.ErrArg}, {step(12, -1), api.ErrArg}, {step(12, 9), api.OK}, {step(3, math.MinInt), api.ErrArg},
		{step(6, 0), api.OK}, {step(6, 1), api.ErrArg}, {step(8, 1), api.ErrArg}, {step(9, -1), api.ErrArg}, {step(7, -1), api.OK}, {step(7, -2), api.ErrArg}, {step(7, api.MaxNum), api.OK}, {step(7, api.MaxNum+1), api.ErrArg},
		{keep(8, 0, api.MaxNum), api.OK}, {keep(9, make([]int, 64)...), api.OK}, {keep(9, make([]int, 65)...), api.ErrArg}, {keep(8, -1), api.ErrArg}, {keep(8, 1, api.MaxNum+1), api.ErrArg}, {keep(7, 1), api.ErrArg}, {keep(6, 1), api.ErrArg},
		{input(0), api.ErrArg}, {input(0, many(64)...), api.OK}, {input(0, many(65)...), api.ErrArg}, {input(-1, many(1)...), api.ErrArg}, {api.Order{S: api.Step{Kind: 2, L: many(1)}}, api.ErrArg}, {api.Order{S: api.Step{Kind: 8, L: many(1)}}, api.ErrArg}, {api.Order{S: api.Step{Kind: 1, L: many(1), Keep: []int{1}}}, api.ErrArg},
		{input(0, rec(-1, 1, 1)), api.ErrArg}, {input(0, rec(api.MaxKey+1, 1, 1)), api.ErrArg}, {input(0, rec(1, -1, 1)), api.ErrArg}, {input(0, rec(1, api.MaxNum+1, 1)), api.ErrArg}, {input(0, rec(1, 1, math.MinInt)), api.ErrArg}, {input(0, rec(1, 1, math.MinInt+1)), api.OK},
		{input(0, rec(1, 1, 1), api.Record{Text: "\x80"}), api.ErrArg}, {input(0, api.Record{Text: "\x02\x02"}), api.ErrArg}, {input(0, api.Record{}), api.ErrArg},
	} {
		s := api.Script{C: config(), L: []api.Order{step(6, 0), x.o}}
		if e := script.Check(s); e != x.e {
			t.Errorf("%d: %d", i, e)
		}
		text, e := script.Print(s)
		if e != x.e || (text == "") != (e != api.OK) {
			t.Errorf("%d: %q %d", i, text, e)
		}
		if e != api.OK {
			continue
		}
		if got, _, _, e := script.Parse(text); !same(got, s) || e != api.OK {
			t.Errorf("%d: %v %d", i, got, e)
		}
	}
	good := api.Rule{Field: 1, Op: api.OpLt, For: 1, Clear: 1}
	for i, x := range []struct {
		f func(s *api.Script)
		e api.Errno
	}{
		{func(s *api.Script) {}, api.OK}, {func(s *api.Script) { s.C.Parts = 0 }, api.ErrArg}, {func(s *api.Script) { s.C.Q.When.Op = 99 }, api.ErrArg}, {func(s *api.Script) { *s = api.Script{} }, api.ErrArg},
		{func(s *api.Script) { s.Rules = slices.Repeat([]api.Rule{good}, 8) }, api.OK}, {func(s *api.Script) { s.Rules = slices.Repeat([]api.Rule{good}, 9) }, api.ErrArg}, {func(s *api.Script) { s.Rules = []api.Rule{good, {}} }, api.ErrArg},
		{func(s *api.Script) { s.L = slices.Repeat([]api.Order{step(6, 0)}, 200) }, api.OK}, {func(s *api.Script) { s.L = slices.Repeat([]api.Order{step(6, 0)}, 201) }, api.ErrArg},
	} {
		s := api.Script{C: config()}
		x.f(&s)
		if e := script.Check(s); e != x.e {
			t.Errorf("%d: %d", i, e)
		}
		if text, e := script.Print(s); e != x.e || (text == "") != (e != api.OK) {
			t.Errorf("%d: %q %d", i, text, e)
		}
	}
}

// TestBack: what is printed is read unchanged, also with more space.
func TestBack(t *testing.T) {
	r := rand.New(rand.NewSource(1))
	for range 2000 {
		s := api.Script{C: config()}
		s.C.Parts, s.C.Workers, s.C.Blocks, s.C.Most, s.C.Sticky = 1+r.Intn(4), 1+r.Intn(8), 1+r.Intn(9000), 1+r.Intn(64), r.Intn(2) == 0
		if r.Intn(2) == 0 {
			s.C.Q, _, _, _ = pipe.Parse([]string{"when value > 0", "key key % 2", "when 1 value -value * 2", "when key and not time key 1 value if value then 1 else 2 end"}[r.Intn(4)])
		}
		for range r.Intn(4) {
			s.Rules = append(s.Rules, api.Rule{Field: 1 + r.Intn(4), Op: api.OpLt + r.Intn(4), Limit: r.Intn(20) - 10, For: 1 + r.Intn(9), Clear: 1 + r.Intn(9)})
		}
		for range r.Intn(20) {
			o := step(1+r.Intn(12), r.Intn(9))
			switch o.S.Kind {
			case api.StepInput:
				for range 1 + r.Intn(4) {
					o.S.L = append(o.S.L, rec(r.Intn(9), r.Intn(99), r.Intn(99)-50))
				}
			case api.StepTick:
				o = api.Order{Rest: true, Rounds: r.Intn(60)}
			case api.StepFuse:
				o.S.N--
			case api.StepCrash, api.StepStart:
				o.S.N = 0
				for range r.Intn(4) {
					o.S.Keep = append(o.S.Keep, r.Intn(9))
				}
			}
			s.L = append(s.L, o)
		}
		text, e := script.Print(s)
		if e != api.OK {
			t.Fatal(e)
		}
		got, _, _, e := script.Parse(text)
		if !same(got, s) || e != api.OK {
			t.Fatal(text, e)
		}
		if again, _ := script.Print(got); again != text {
			t.Fatal(text, again)
		}
		if len(text) < 1500 {
			if got, _, _, e = script.Parse(strings.ReplaceAll(text, " ", " #x\n ")); !same(got, s) || e != api.OK {
				t.Fatal(text, e)
			}
		}
	}
}

// TestAny: what is read of any text may be.
func TestAny(t *testing.T) {
	r := rand.New(rand.NewSource(2))
	words := strings.Fields("cluster parts workers 1 2 0 ; ; , : - rest input at value serve deliver tick fuse off crash keep start alert sum > for clear query when sticky")
	good := 0
	for range 100000 {
		l := strings.Fields(strings.ReplaceAll(cluster+" ; alert sum > 1 for 1 clear 1 ; input 0 : 1 at 1 value 1 , 2 at 2 value - 2 ; fuse off ; crash keep 1 , 2 ; tick ;", "\n", " "))
		for range r.Intn(4) {
			k := r.Intn(len(l))
			switch r.Intn(3) {
			case 0:
				l[k] = words[r.Intn(len(words))]
			case 1:
				l = slices.Delete(l, k, k+1)
			case 2:
				l = slices.Insert(l, k, words[r.Intn(len(words))])
			}
		}
		s, line, column, e := script.Parse(strings.Join(l, " "))
		if e == api.OK {
			good++
			if script.Check(s) != api.OK || line != 0 || column != 0 {
				t.Fatal(l)
			}
		} else if !reflect.DeepEqual(s, api.Script{}) || (line == 0) != (e == api.ErrArg) {
			t.Fatal(l, s, line, e)
		}
	}
	if good == 0 {
		t.Error("nothing is read")
	}
}
