package script

import (
	"strconv"
	"strings"

	"headgate/alert"
	"headgate/api"
	"headgate/engine"
	"headgate/pipe"
)

// Print tells a script's text.
func Print(s api.Script) (string, api.Errno) {
	if e := Check(s); e != api.OK {
		return "", e
	}
	query, e := pipe.Print(s.C.Q)
	if e != api.OK {
		return "", e
	}
	lines := []string{config(s.C, query)}
	for _, r := range s.Rules {
		text, e := alert.Print(r)
		if e != api.OK {
			return "", e
		}
		lines = append(lines, text)
	}
	for _, o := range s.L {
		lines = append(lines, text(o))
	}
	return strings.Join(lines, ";\n") + ";\n", api.OK
}

// config tells the text of a config with the text of its query.
func config(c api.Config, query string) string {
	parts := []string{"cluster"}
	for _, x := range settings(&c) {
		parts = append(parts, x.word, strconv.Itoa(*x.n))
	}
	if c.Sticky {
		parts = append(parts, "sticky")
	}
	if query != "" {
		parts = append(parts, "query", query)
	}
	return strings.Join(parts, " ")
}

// text tells the text of an order.
func text(o api.Order) string {
	if o.Rest {
		return "rest " + strconv.Itoa(o.Rounds)
	}
	word := words()[o.S.Kind-api.StepInput]
	switch {
	case o.S.Kind == api.StepInput:
		return word + " " + strconv.Itoa(o.S.N) + ": " + values(o.S.L)
	case o.S.Kind == api.StepFuse && o.S.N < 0:
		return word + " off"
	case len(o.S.Keep) > 0:
		return word + " keep " + numbers(o.S.Keep)
	case o.S.Kind == api.StepTick || o.S.Kind == api.StepCrash || o.S.Kind == api.StepStart:
		return word
	}
	return word + " " + strconv.Itoa(o.S.N)
}

// values tells the text of records.
func values(l []api.Record) string {
	var parts []string
	for _, r := range l {
		v, _ := engine.Value(r)
		parts = append(parts, strconv.Itoa(r.Key)+" at "+strconv.Itoa(r.Time)+" value "+strconv.Itoa(v))
	}
	return strings.Join(parts, ", ")
}

// numbers tells the text of numbers.
func numbers(l []int) string {
	var parts []string
	for _, n := range l {
		parts = append(parts, strconv.Itoa(n))
	}
	return strings.Join(parts, ", ")
}
