package parse_test

import (
	"slices"
	"strings"
	"testing"

	"leaven/api"
	"leaven/parse"
)

// sample is the text of an expression, with @ where a site is omitted, and this expression, with the sites from 1 on.
type sample struct {
	text  string
	e     api.Expr
	binds int // how much it binds: it needs parentheses where only something greater may stand
}

// How much expressions bind: all others, operators (by their precedence), applications, and atoms.
const (
	bindsLeast = 0
	bindsApp   = 6
	bindsAtom  = 7
)

func sitesIn(text string) int {
	return strings.Count(text, "@") + strings.Count(text, "?")
}

// shifted is an expression whose sites begin after n others.
func shifted(e api.Expr, n int) api.Expr {
	shift := func(x api.Type) api.Type {
		x = slices.Clone(x)
		for i := range x {
			if x[i].Kind == api.Dyn {
				x[i].N += n
			}
		}
		return x
	}
	e = slices.Clone(e)
	for i := range e {
		e[i].T, e[i].U = shift(e[i].T), shift(e[i].U)
	}
	return e
}

// typed is what may stand for a type after a name: its text and the type, in which the first site is 1.
type typed struct {
	text string
	t    api.Type
}

func told() []typed {
	return []typed{
		{": ?", api.Type{{N: 1}}}, {": int", api.Type{{Kind: api.Int}}},
		{": ? -> {b: ?, a: unit}", api.Type{{Kind: api.Arrow}, {N: 1}, {Kind: api.Record, N: 2}, {Kind: api.Unit, Name: "a"}, {Name: "b", N: 2}}},
	}
}

// mayBeTold are the types that are told, and the one that is omitted.
func mayBeTold() []typed {
	return append(told(), typed{"@", api.Type{{N: 1}}})
}

// build makes a sample of texts, types and samples, one after the other; the types are those of the outermost part, and a sample after a number needs to bind at least so much.
func build(p api.Part, binds int, pieces ...any) sample {
	var text strings.Builder
	var types []api.Type
	kids := api.Expr{}
	least := 0
	for _, piece := range pieces {
		before := sitesIn(text.String())
		switch x := piece.(type) {
		case int:
			least = x
		case string:
			text.WriteString(x)
		case typed:
			types = append(types, shifted(api.Expr{{T: x.t}}, before)[0].T)
			text.WriteString(x.text)
		case api.Part:
			kids = append(kids, x)
		case sample:
			if x.binds < least {
				x.text = "(" + x.text + ")"
			}
			e := shifted(x.e, before)
			if n := len(kids) - 1; n >= 0 && kids[n].Kind == api.Lit && kids[n].T == nil { // the label of this child
				e[0].Label, kids = kids[n].Label, kids[:n]
			}
			text.WriteString(x.text)
			kids = append(kids, e...)
			least = 0
		}
	}
	if len(types) > 0 {
		p.T = types[0]
	}
	if len(types) > 1 {
		p.U = types[1]
	}
	return sample{text.String(), append(api.Expr{p}, kids...), binds}
}

// leaves are samples of one part.
func leaves() []sample {
	lit := func(kind int) api.Type { return api.Type{{Kind: kind}} }
	return []sample{
		build(api.Part{Kind: api.Lit, T: lit(api.Int), Num: 42}, bindsAtom, "42"), build(api.Part{Kind: api.Lit, T: lit(api.Bool), Num: 1}, bindsAtom, "true"), build(api.Part{Kind: api.Lit, T: lit(api.String), Name: "a("}, bindsAtom, `"a("`),
		build(api.Part{Kind: api.Lit, T: lit(api.Unit)}, bindsAtom, "()"), build(api.Part{Kind: api.Name, Name: "x"}, bindsAtom, "x"), build(api.Part{Kind: api.Name, Name: "m!y"}, bindsAtom, "m ! y"), build(api.Part{Kind: api.Rows}, bindsAtom, "{}"),
	}
}

// withOne are the samples of a part with one child.
func withOne(x sample) []sample {
	l := []sample{
		build(api.Part{Kind: api.Get, Name: "l"}, bindsAtom, bindsAtom, x, ".l"),
		build(api.Part{Kind: api.Rows, Many: 1}, bindsAtom, "{a = ", api.Part{Label: "a"}, x, "}"),
	}
	for _, t := range mayBeTold() {
		l = append(l, build(api.Part{Kind: api.Fun, Bind: "y"}, bindsLeast, "fun (y", t, ") -> ", x), build(api.Part{Kind: api.Inject, Name: "A"}, bindsAtom, "[A = ", x, t, "]"))
	}
	for _, t := range told() {
		l = append(l, build(api.Part{Kind: api.As}, bindsAtom, "(", x, t, ")"))
	}
	return l
}

// withTwo are the samples of a part with two children, or with a child and a branch.
func withTwo(x, y sample) []sample {
	l := []sample{
		build(api.Part{Kind: api.App}, bindsApp, bindsApp, x, " ", bindsAtom, y),
		build(api.Part{Kind: api.Rows, Many: 2}, bindsAtom, "{b = ", api.Part{Label: "b"}, x, ", a = ", api.Part{Label: "a"}, y, "}"),
		build(api.Part{Kind: api.Case, Many: 1}, bindsLeast, "case ", x, " of A z -> ", api.Part{Kind: api.Branch, Label: "A", Bind: "z"}, y, " end"),
	}
	for binds, ops := range [][]string{nil, {"||"}, {"&&"}, {"<", "=="}, {"+", "-", "++"}, {"*", "/"}} {
		for _, op := range ops {
			l = append(l, build(api.Part{Kind: api.Op, Name: op}, binds, binds, x, " "+op+" ", binds+1, y))
		}
	}
	for i, t := range mayBeTold() {
		u := mayBeTold()[(i+3)%4]
		l = append(l, build(api.Part{Kind: api.Let, Bind: "z"}, bindsLeast, "let z", t, " = ", x, " in ", y), build(api.Part{Kind: api.Rec, Name: "f", Bind: "z"}, bindsLeast, "rec f (z", t, ")", u, " = ", x, " in ", y))
	}
	return l
}

// withThree are the samples of a part with three children or branches.
func withThree(x, y, z sample) []sample {
	branch := func(label string) api.Part { return api.Part{Kind: api.Branch, Label: label, Bind: "y"} }
	return []sample{
		build(api.Part{Kind: api.If}, bindsLeast, "if ", x, " then ", y, " else ", z),
		build(api.Part{Kind: api.Case, Many: 2}, bindsLeast, "case ", x, " of B y -> ", branch("B"), y, " | A y -> ", branch("A"), z, " end"),
	}
}

// samples are those that have up to this many leaves, which are some of these, and parts with one child.
func samples(some []sample, most int) [][]sample {
	bySize := make([][]sample, most+1)
	bySize[1] = some
	for n := 2; n <= most; n++ {
		for _, x := range bySize[n-1] {
			bySize[n] = append(bySize[n], withOne(x)...)
		}
		for i := 1; i < n; i++ {
			for _, x := range bySize[i] {
				for _, y := range bySize[n-i] {
					bySize[n] = append(bySize[n], withTwo(x, y)...)
				}
			}
		}
	}
	for _, x := range slices.Concat(bySize[:most]...) { // not all three of them large, which would be too many
		for i, y := range []sample{some[0], bySize[2][0], bySize[2][3]} {
			z := leaves()[i]
			bySize[most] = slices.Concat(bySize[most], withThree(x, y, z), withThree(y, x, z), withThree(y, z, x))
		}
	}
	return bySize
}

// sitesOf are the text without @, and the sites that it has.
func sitesOf(s string) (string, []api.Site) {
	var text strings.Builder
	var sites []api.Site
	for _, c := range s {
		at := text.Len()
		switch c {
		case '@':
			sites = append(sites, api.Site{From: at, To: at, Miss: true})
			continue
		case '?':
			sites = append(sites, api.Site{From: at, To: at + 1})
		}
		text.WriteRune(c)
	}
	return text.String(), sites
}

func sameParts(a, b api.Expr) bool {
	return slices.EqualFunc(a, b, func(p, q api.Part) bool {
		return p.Kind == q.Kind && p.Label == q.Label && p.Name == q.Name && p.Bind == q.Bind && p.Many == q.Many && p.Num == q.Num && slices.Equal(p.T, q.T) && slices.Equal(p.U, q.U)
	})
}

// checkSample checks a sample as a definition.
func checkSample(t *testing.T, x sample) {
	t.Helper()
	text, sites := sitesOf("def p@ = " + x.text + ";")
	m := parsed(t, text)
	if !slices.Equal(m.Sites, sites) || !sameParts(m.Defs[0].E, shifted(x.e, 1)) {
		t.Fatalf("%q: %v %v, want %v %v", text, m.Defs[0].E, m.Sites, x.e, sites)
	}
	checkRoundTrip(t, m)
}

// P6.1, P6.2, P6.3: the parts and the sites of all kinds of texts with few parentheses.
func TestSamples(t *testing.T) {
	for _, x := range slices.Concat(samples(leaves()[4:6], 3)...) {
		checkSample(t, x)
	}
}

// P6.1: parentheses, spaces and comments around parts change nothing but the places of sites.
func TestSamplesInParens(t *testing.T) {
	for _, x := range slices.Concat(samples(leaves(), 2)...) {
		inner := x
		inner.text = "((" + x.text + "))"
		inner.binds = bindsAtom
		for _, y := range slices.Concat(withOne(inner), withTwo(inner, inner), withThree(inner, inner, inner)) {
			checkSample(t, y)
		}
		spread := x
		spread.text = strings.NewReplacer(" ", " # c\n\t", "(", "( ", ")", " )", "{", "{ ", "}", " }").Replace(x.text)
		if !strings.Contains(x.text, `"`) {
			checkSample(t, spread)
		}
	}
}

// P6.1: modules of several definitions, with sites one after the other.
func TestSamplesInModules(t *testing.T) {
	l := slices.Concat(samples(leaves(), 2)...)
	for i, x := range l {
		y, z := l[(i*7+3)%len(l)], l[(i*11+5)%len(l)]
		told := mayBeTold()[i%4]
		s := "import b; import a; def p@ = " + x.text + "; def q" + told.text + " = " + y.text + ";\ndef r: ? = " + z.text + ";"
		text, sites := sitesOf(s)
		m := parsed(t, text)
		inX := 1 + sitesIn(x.text)
		inY := inX + sitesIn(told.text)
		inZ := inY + sitesIn(y.text) + 1
		want := []api.Def{
			{Name: "p", T: api.Type{{N: 1}}, E: shifted(x.e, 1)}, {Name: "q", T: shifted(api.Expr{{T: told.t}}, inX)[0].T, E: shifted(y.e, inY)}, {Name: "r", T: api.Type{{N: inZ}}, E: shifted(z.e, inZ)},
		}
		same := slices.EqualFunc(m.Defs, want, func(c, d api.Def) bool {
			return c.Name == d.Name && slices.Equal(c.T, d.T) && sameParts(c.E, d.E)
		})
		if !same || !slices.Equal(m.Sites, sites) || !slices.Equal(m.Imports, []string{"b", "a"}) {
			t.Fatalf("%q: %v, want %v", text, m, want)
		}
		checkRoundTrip(t, m)
		if !parse.Same(m, api.Module{Name: "m", Imports: []string{"b", "a"}, Defs: want}) {
			t.Fatalf("%q", text)
		}
	}
}
