package text_test

import (
	"math/big"
	"regexp"
	"slices"
	"strings"
	"testing"

	"filigree/api"
)

// verdict is what the document says of a text.
type verdict struct {
	where string
	at    int
	kind  api.Kind
	n     int64
	edges []api.Edge
}

// judge reads a text by the chapter's words, line by line and in another way than the program does: by patterns, and by numbers without a bound.
func judge(s string) verdict {
	number := `(0|-?[1-9][0-9]*)`
	first := regexp.MustCompile(`\Agraph ` + number + ` ` + number + `\n\z`)
	other := regexp.MustCompile(`\Aedge ` + number + ` ` + number + ` ` + number + `\n\z`)
	lines := strings.SplitAfter(s, "\n")
	head, ok := taken(first, lines[0])
	switch {
	case !ok:
		return verdict{where: "line", at: 1, kind: api.BadText}
	case head[0] < 0 || head[1] < 0:
		return verdict{where: "line", at: 1, kind: api.BadArg}
	case head[0] > api.MaxN || head[1] > api.MaxM:
		return verdict{where: "line", at: 1, kind: api.TooLarge}
	}
	v := verdict{n: head[0]}
	for i := range int(head[1]) {
		e, ok := []int64(nil), false
		if i+1 < len(lines) {
			e, ok = taken(other, lines[i+1])
		}
		if kind := judgeEdge(head[0], e, ok); kind != api.OK {
			return verdict{where: "line", at: i + 2, kind: kind}
		}
		v.edges = append(v.edges, api.Edge{U: int(min(e[0], e[1])), V: int(max(e[0], e[1])), W: e[2]})
	}
	if rest := strings.Join(lines[head[1]+1:], ""); rest != "" {
		return verdict{where: "line", at: int(head[1]) + 2, kind: api.BadText}
	}
	for i, e := range v.edges {
		for _, f := range v.edges[:i] {
			if e.U == f.U && e.V == f.V {
				return verdict{where: "text", kind: api.Twice}
			}
		}
	}
	slices.SortFunc(v.edges, func(a, b api.Edge) int { return (a.U-b.U)*(1<<21) + a.V - b.V })
	return v
}

// judgeEdge tells what is wrong with an edge of a graph of n vertices; not ok: its line is none.
func judgeEdge(n int64, e []int64, ok bool) api.Kind {
	switch {
	case !ok:
		return api.BadText
	case min(e[0], e[1]) < 0 || max(e[0], e[1]) >= n:
		return api.BadVertex
	case e[0] == e[1]:
		return api.Loop
	case max(e[2], -e[2]) >= api.MaxW || e[2] == -e[2] && e[2] != 0:
		return api.BadWeight
	}
	return api.OK
}

// taken is the numbers of a line of this pattern, if it is one and all are of an int64.
func taken(pattern *regexp.Regexp, line string) ([]int64, bool) {
	found := pattern.FindStringSubmatch(line)
	if found == nil {
		return nil, false
	}
	var out []int64
	for _, s := range found[1:] {
		n, ok := new(big.Int).SetString(s, 10)
		if !ok || !n.IsInt64() {
			return nil, false
		}
		out = append(out, n.Int64())
	}
	return out, true
}

// isJudged fails the test unless Parse says of s what judge says.
func isJudged(t *testing.T, s string) api.Kind {
	t.Helper()
	v := judge(s)
	if v.kind != api.OK {
		isRefused(t, s, v.where, v.at, v.kind)
	} else {
		isParsed(t, s, api.Graph{N: int(v.n), E: v.edges})
	}
	return v.kind
}

// spoil changes one thing in a text: a byte, a word or a line goes, comes or moves.
func (d *dice) spoil(s string) string {
	words := []string{"0", "1", "-1", "6", "7", "graph", "edge", "-0", "01", "", "2147483647", "2147483648", "-2147483648", "1048576", "1048577", "4194305", "9223372036854775807", "9223372036854775808", "-9223372036854775808"}
	lines := strings.SplitAfter(s, "\n")
	i := d.below(len(lines))
	fields := strings.Split(strings.TrimSuffix(lines[i], "\n"), " ")
	at := d.below(len(s) + 1)
	switch d.below(8) {
	case 0:
		return s[:at]
	case 1:
		return s[:at] + string("\n 0-19egr\x00\t\r+"[d.below(13)]) + s[at:]
	case 2:
		return s[:at] + s[min(at+1, len(s)):]
	case 3:
		lines = slices.Insert(lines, i, lines[d.below(len(lines))])
	case 4:
		lines = slices.Delete(lines, i, i+1)
	case 5:
		j := d.below(len(lines))
		lines[i], lines[j] = lines[j], lines[i]
	default:
		fields[d.below(len(fields))] = words[d.below(len(words))]
		lines[i] = strings.Join(fields, " ") + "\n"
	}
	return strings.Join(lines, "")
}

// P502: texts that are spoilt in one place, or in some, are told as the chapter's words tell them, and all kinds come up.
func TestParseSpoiltTexts(t *testing.T) {
	d := dice(50205)
	seen := map[api.Kind]int{}
	for range 20000 {
		s := textOf(d.mixed(d.graph(d.below(8), 20+d.below(60))))
		for range 1 + d.below(3) {
			s = d.spoil(s)
		}
		seen[isJudged(t, s)]++
		if t.Failed() {
			return
		}
	}
	for _, k := range []api.Kind{api.OK, api.BadText, api.BadArg, api.TooLarge, api.BadVertex, api.Loop, api.BadWeight, api.Twice} {
		if seen[k] < 10 {
			t.Errorf("kind %d came up %d times", int(k), seen[k])
		}
	}
}
