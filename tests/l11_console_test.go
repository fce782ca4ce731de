package tests

import (
	"fmt"
	"regexp"
	"slices"
	"strings"
	"testing"

	"loop.example/g01298/impl"
)

// numberWord tells the words that are numbers.
var numberWord = regexp.MustCompile(`^(0|-?[1-9][0-9]{0,8})$`)

// commandWords returns for each command of the chapter's table what words are behind it: T is a text,
// K a number, and N any number of numbers.
func commandWords() map[string]string {
	return map[string]string{
		"graph": "T", "named": "T", "same": "T",
		"delete": "K", "contract": "K", "subdivide": "K", "fire": "K", "reduce": "K",
		"counts": "K", "primes": "K", "series": "K",
		"cyclic": "KN", "bartholdi": "KK",
		"renumber": "N", "switch": "N", "signs": "N", "chips": "N", "straight": "N",
		"prune": "", "double": "", "complement": "",
		"show": "", "sheets": "", "purse": "",
		"degrees": "", "rank": "", "zeta": "", "factor": "", "pole": "", "signed": "", "spectrum": "",
		"automorphisms": "", "factors": "", "classes": "", "order": "", "number": "", "reset": "",
	}
}

// commandNames returns all commands, in order.
func commandNames() []string {
	var names []string
	for name := range commandWords() {
		names = append(names, name)
	}
	slices.Sort(names)
	return names
}

// outcome is what comes of a line: the desk after it and the output, if it is right.
type outcome struct {
	desk   impl.Desk
	output string
	right  bool
}

// freshOf returns the fresh desk of a graph.
func freshOf(g impl.Graph) impl.Desk {
	return impl.Desk{Graph: g, Signs: filled(len(g.Edges), 1), Chips: filled(int(g.Size), 0)}
}

// numbersText returns a list as it is put out.
func numbersText(list []int64) string {
	if len(list) == 0 {
		return "none"
	}
	return strings.Trim(fmt.Sprint(list), "[]")
}

// gives returns the outcome of a line that gives the desk a graph.
func gives(g impl.Graph, code int64) outcome {
	text, _ := impl.GraphText(g)
	return outcome{freshOf(g), text, code == impl.ErrNone}
}

// putter puts out what functions return, on a desk that nothing is done to.
type putter struct{ desk impl.Desk }

func (p putter) list(list []int64, code int64) outcome {
	return outcome{p.desk, numbersText(list), code == impl.ErrNone}
}

func (p putter) number(n int64, code int64) outcome {
	return outcome{p.desk, fmt.Sprint(n), code == impl.ErrNone}
}

func (p putter) answer(yes bool, code int64) outcome {
	return outcome{p.desk, map[bool]string{true: "yes", false: "no"}[yes], code == impl.ErrNone}
}

// isDesk reports whether d is a desk, by hand.
func isDesk(d impl.Desk) bool {
	if !impl.IsGraph(d.Graph) || len(d.Signs) != len(d.Graph.Edges) || len(d.Chips) != int(d.Graph.Size) {
		return false
	}
	return areWithin(d.Chips) && !slices.ContainsFunc(d.Signs, func(sign int64) bool { return sign != 1 && sign != -1 })
}

// withSigns returns the outcome of a line that gives the desk signs.
func withSigns(d impl.Desk, signs []int64) outcome {
	after := impl.Desk{Graph: d.Graph, Signs: signs, Chips: d.Chips}
	return outcome{after, numbersText(signs), isDesk(after)}
}

// withChips returns the outcome of a line that gives the desk chips.
func withChips(d impl.Desk, chips []int64, code int64) outcome {
	after := impl.Desk{Graph: d.Graph, Signs: d.Signs, Chips: chips}
	return outcome{after, numbersText(chips), code == impl.ErrNone && isDesk(after)}
}

// derived returns the derived graph of a cover that came with a code.
func derived(c impl.Cover, code int64) (impl.Graph, int64) {
	if code != impl.ErrNone {
		return impl.Graph{}, code
	}
	return impl.DerivedGraph(c)
}

// afterCommand returns what the table tells of a command that changes the desk.
func afterCommand(d impl.Desk, command string, text string, n []int64) (outcome, bool) {
	g := d.Graph
	switch command {
	case "graph":
		return gives(impl.ParseGraph(text)), true
	case "named":
		return gives(impl.NamedGraph(text)), true
	case "delete":
		return gives(impl.DeleteEdge(g, n[0])), true
	case "contract":
		return gives(impl.ContractEdge(g, n[0])), true
	case "subdivide":
		return gives(impl.SubdivideEdge(g, n[0])), true
	case "prune":
		return gives(impl.PruneGraph(g)), true
	case "double":
		return gives(derived(impl.DoubleCover(g, d.Signs))), true
	case "cyclic":
		return gives(derived(impl.CyclicCover(g, n[0], n[1:]))), true
	case "renumber":
		return gives(impl.RenumberGraph(g, n)), true
	case "complement":
		return gives(impl.ComplementOf(g)), true
	case "switch":
		return gives(impl.SwitchGraph(g, n)), true
	case "signs":
		return withSigns(d, n), true
	case "chips":
		return withChips(d, n, impl.ErrNone), true
	case "fire":
		chips, code := impl.FireVertex(g, d.Chips, n[0])
		return withChips(d, chips, code), true
	case "reduce":
		chips, code := impl.ReduceChips(g, d.Chips, n[0])
		return withChips(d, chips, code), true
	case "reset":
		return outcome{freshOf(impl.Graph{Size: 3, Edges: [][]int64{{0, 1}, {1, 2}, {2, 0}}}), "ok", true}, true
	}
	return outcome{}, false
}

// shownBy returns what the table tells of a command that does nothing.
func shownBy(d impl.Desk, command string, text string, n []int64) outcome {
	g, put := d.Graph, putter{d}
	switch command {
	case "show":
		shown, code := impl.GraphText(g)
		return outcome{d, shown, code == impl.ErrNone}
	case "sheets":
		return put.list(d.Signs, impl.ErrNone)
	case "purse":
		return put.list(d.Chips, impl.ErrNone)
	case "degrees":
		return put.list(impl.DegreesOf(g))
	case "rank":
		return put.number(impl.RankOf(g))
	case "zeta":
		return put.list(impl.ReciprocalOf(g))
	case "factor":
		return put.list(impl.VertexFactor(g))
	case "counts":
		return put.list(impl.StraightCounts(g, n[0]))
	case "primes":
		return put.list(impl.PrimeCounts(g, n[0]))
	case "series":
		return put.list(impl.ZetaSeries(g, n[0]))
	case "pole":
		return put.number(impl.OrderAtOne(g))
	case "signed":
		return put.list(impl.SignedReciprocal(g, d.Signs))
	case "straight":
		return put.answer(impl.IsStraight(g, n))
	case "bartholdi":
		return put.list(impl.BartholdiReciprocal(n[0], g, n[1]))
	case "spectrum":
		return put.list(impl.SpectrumOf(g))
	case "automorphisms":
		return put.number(impl.CountAutomorphisms(g))
	case "same":
		h, code := impl.ParseGraph(text)
		yes, second := impl.AreIsomorphic(g, h)
		return put.answer(yes, max(code, second))
	case "factors":
		return put.list(impl.FactorsOf(g))
	case "classes":
		return put.number(impl.CountClasses(g))
	case "order":
		return put.number(impl.OrderOfChips(g, d.Chips))
	case "number":
		return put.number(impl.SignedNumber(g, d.Signs))
	}
	return outcome{}
}

// wordsBehind returns the text and the numbers in the words behind a command, and reports whether they
// are as the pattern tells.
func wordsBehind(pattern string, words []string) (string, []int64, bool) {
	if pattern == "T" {
		return strings.Join(words, " "), nil, len(words) == 1
	}
	var numbers []int64
	for _, word := range words {
		var n int64
		if !numberWord.MatchString(word) {
			return "", nil, false
		}
		fmt.Sscan(word, &n)
		numbers = append(numbers, n)
	}
	if least, isOpen := strings.CutSuffix(pattern, "N"); isOpen {
		return "", numbers, len(numbers) >= len(least)
	}
	return "", numbers, len(numbers) == len(pattern)
}

// wantedOf returns the desk after a line and the output, as the table tells.
func wantedOf(d impl.Desk, line string) (impl.Desk, string) {
	words := strings.Split(line, " ")
	pattern, known := commandWords()[words[0]]
	text, numbers, fit := wordsBehind(pattern, words[1:])
	if !known || !fit {
		return d, "error"
	}
	result, changes := afterCommand(d, words[0], text, numbers)
	if !changes {
		result = shownBy(d, words[0], text, numbers)
	}
	if !result.right {
		return d, "error"
	}
	return result.desk, result.output
}

// checkLine checks what comes of a line on a desk, and returns it.
func checkLine(t *testing.T, d impl.Desk, line string) (impl.Desk, string) {
	t.Helper()
	what := fmt.Sprintf("line %q on %v", line, d)
	want, output := wantedOf(d, line)
	after, got := impl.RunLine(d, line)
	same(t, "output of "+what, got, output)
	same(t, "desk after "+what, after, want)
	same(t, "IsDesk after "+what, impl.IsDesk(after), true)
	if got == "error" {
		same(t, "desk after the error of "+what, after, d)
	}
	return after, got
}

// checkError checks that the output of a line on a desk is error, and that nothing is changed.
func checkError(t *testing.T, d impl.Desk, line string) {
	t.Helper()
	after, output := impl.RunLine(d, line)
	same(t, fmt.Sprintf("output of %q on %v", line, d), output, "error")
	same(t, fmt.Sprintf("desk after %q", line), after, d)
}

// deskOf returns a desk by the text of its graph, its signs and its chips.
func deskOf(t *testing.T, text string, signs []int64, chips []int64) impl.Desk {
	t.Helper()
	d := impl.Desk{Graph: parsed(t, text), Signs: signs, Chips: chips}
	same(t, fmt.Sprint("IsDesk of ", d), impl.IsDesk(d), true)
	return d
}

// deskGraphs returns graphs with loops, with parallel edges, in several parts, with one vertex, without
// an edge, and with most vertices and edges.
func deskGraphs(t *testing.T) []impl.Graph {
	graphs := namedGraphs()
	for _, text := range []string{"2:", "8:", "2:0-0", "2:0-0,1-1", "2:0-1,1-0", "3:1-1", "3:0-1", "3:0-1,1-2", "3:0-0,0-1,1-0,1-1,2-2", "4:0-1,2-3",
		"4:0-1,0-2,1-2,3-3", "4:0-1,1-2,2-3", "5:0-1,1-2,2-0,3-4", "6:0-1,1-2,2-0,3-4,4-5,5-3", "6:0-1,1-2,2-3,3-4,4-5,5-0,0-3",
		"1:0-0,0-0,0-0,0-0,0-0,0-0,0-0,0-0,0-0,0-0", "2:0-1,0-1,0-1,0-1,0-1,0-1,0-1,0-1,0-1,0-1", "3:0-1,0-1,0-1,1-2,1-2,1-2,2-0,2-0,2-0,2-0",
		"5:0-1,0-2,0-3,0-4,1-2,1-3,1-4,2-3,2-4,3-4", "8:0-1,1-2,2-3,3-4,4-5,5-6,6-7,7-0", "8:0-1,1-2,2-3,3-4,4-5,5-6,6-7,7-0,0-4,2-6"} {
		graphs = append(graphs, parsed(t, text))
	}
	d := dice(121)
	for range 30 {
		graphs = append(graphs, rolledGraph(&d, d.between(1, 8), d.between(0, 10)))
	}
	return graphs
}

// desksWith returns desks of a graph: the fresh one, and others with signs of both kinds and with chips.
func desksWith(d *dice, g impl.Graph) []impl.Desk {
	return []impl.Desk{
		freshOf(g),
		{Graph: g, Signs: rolledSigns(d, len(g.Edges)), Chips: rolledNothing(d, g.Size, 9)},
		{Graph: g, Signs: filled(len(g.Edges), -1), Chips: rolledChips(d, g.Size, 200)},
		{Graph: g, Signs: rolledSigns(d, len(g.Edges)), Chips: rolledChips(d, g.Size, 3)},
	}
}

// sampleDesks returns desks of all kinds.
func sampleDesks(t *testing.T) []impl.Desk {
	d := dice(122)
	desks := []impl.Desk{impl.NewDesk()}
	for _, g := range deskGraphs(t) {
		desks = append(desks, desksWith(&d, g)...)
	}
	return desks
}

// lineWith returns a line of a command and numbers.
func lineWith(command string, numbers ...int64) string {
	for _, n := range numbers {
		command += fmt.Sprint(" ", n)
	}
	return command
}

// numberLines returns lines with a command and one number, both right and out of range ones.
func numberLines(desk impl.Desk) []string {
	var lines []string
	for k := int64(-1); k <= int64(len(desk.Graph.Edges)); k++ {
		lines = append(lines, lineWith("delete", k), lineWith("contract", k), lineWith("subdivide", k))
	}
	for v := int64(-1); v <= desk.Graph.Size; v++ {
		lines = append(lines, lineWith("fire", v), lineWith("reduce", v))
	}
	for _, k := range []int64{-1, 0, 1, 2, 5, 10, 11, 999999999, -999999999} {
		lines = append(lines, lineWith("counts", k), lineWith("primes", k), lineWith("series", k), lineWith("fire", k), lineWith("delete", k))
	}
	return lines
}

// textLines returns lines with a command and a text.
func textLines(d *dice, desk impl.Desk) []string {
	texts := []string{"point", "houses", "Triangle", "hexagon", "3:0-1,1-2,2-0", "3:0-1", "1:", "0:", "9:", "2:0-2", "2:0-1,", "3:0-1,1-2,2-00", "-", "0", "triangle,", ""}
	own, _ := impl.GraphText(desk.Graph)
	turned, _ := impl.GraphText(turnedAround(d, desk.Graph))
	renumbered, _ := impl.GraphText(handRenumbered(desk.Graph, rolledMap(d, desk.Graph.Size)))
	var lines []string
	for _, text := range append(texts, own, turned, renumbered) {
		lines = append(lines, "graph "+text, "named "+text, "same "+text)
	}
	return lines
}

// coverLines returns lines with cyclic covers, both right and out of range ones.
func coverLines(d *dice, desk impl.Desk) []string {
	m := len(desk.Graph.Edges)
	lines := []string{"cyclic", "cyclic 2", "cyclic 0", "cyclic -3"}
	for s := int64(0); s <= 5; s++ {
		for _, n := range []int{m - 1, m, m, m + 1} {
			lines = append(lines, lineWith("cyclic", append([]int64{s}, rolledChips(d, int64(max(n, 0)), 1000)...)...))
		}
		lines = append(lines, lineWith("cyclic", append([]int64{s}, filled(m, 1001)...)...))
	}
	return lines
}

// listLines returns lines with a command and any number of numbers, both right and wrong lists.
func listLines(d *dice, desk impl.Desk) []string {
	g := desk.Graph
	n, m := int(g.Size), len(g.Edges)
	var lines []string
	for range 3 {
		lines = append(lines, lineWith("renumber", rolledMap(d, g.Size)...), lineWith("signs", rolledSigns(d, m)...),
			lineWith("chips", rolledChips(d, g.Size, 200)...), lineWith("chips", rolledNothing(d, g.Size, 5)...))
	}
	for _, list := range [][]int64{nil, {0}, {1}, {-1}, {0, 1}, {1, 0}, {0, 2}, {0, 1, 2}, {0, 1, 2, 3}, {0, 1, 2, 3, 4, 5, 6, 7}, {0, 2, 4}, {4, 2, 0}, {1, 5, 3},
		filled(n, 0), filled(n, 200), filled(n, -200), filled(n, 201), filled(n, -201), filled(n-1, 0), filled(n+1, 0), filled(m, 1), filled(m, -1), filled(m, 0), filled(m, 2),
		filled(max(m-1, 0), 1), filled(m+1, -1), filled(20, 0), filled(21, 0), {int64(2*m - 1)}, {int64(2 * m)}, {999999999}, {-999999999}} {
		for _, command := range []string{"renumber", "switch", "signs", "chips", "straight"} {
			lines = append(lines, lineWith(command, list...))
		}
	}
	if m > 0 {
		walk := rolledWalk(d, g, int(d.between(1, 6)))
		lines = append(lines, lineWith("straight", walk...), lineWith("straight", slices.Concat(walk, reversedWalk(walk))...))
	}
	return lines
}

// turnLines returns lines with primes and numbers below them, and others.
func turnLines(d *dice) []string {
	lines := []string{"bartholdi", "bartholdi 7", "bartholdi 7 3 0", "bartholdi 3 7", "bartholdi 10009 0", "bartholdi -7 0", "bartholdi 999999999 0"}
	for _, p := range []int64{0, 1, 4, 10005} {
		lines = append(lines, lineWith("bartholdi", p, 0))
	}
	for _, p := range weightPrimes() {
		lines = append(lines, lineWith("bartholdi", p, d.below(p)), lineWith("bartholdi", p, p), lineWith("bartholdi", p, -1))
	}
	return lines
}

// linesFor returns lines with all commands, right and wrong ones.
func linesFor(d *dice, desk impl.Desk) []string {
	lines := slices.Concat(commandNames(), numberLines(desk), textLines(d, desk), coverLines(d, desk), listLines(d, desk), turnLines(d))
	return append(lines, "", " ", "fly", "triangle", "error", "ok", "none")
}

func TestConstantsOfTheConsole(t *testing.T) {
	same(t, "MaxConsole", impl.MaxConsole, 4000)
	same(t, "MaxLines", impl.MaxLines, 40)
}

func TestNewDesk(t *testing.T) {
	want := impl.Desk{Graph: impl.Graph{Size: 3, Edges: [][]int64{{0, 1}, {1, 2}, {2, 0}}}, Signs: []int64{1, 1, 1}, Chips: []int64{0, 0, 0}}
	same(t, "NewDesk", impl.NewDesk(), want)
	same(t, "IsDesk of the new desk", impl.IsDesk(impl.NewDesk()), true)
	checkOwnDesk(t, "NewDesk", impl.NewDesk)
}

func TestIsDesk(t *testing.T) {
	for _, d := range sampleDesks(t) {
		same(t, fmt.Sprint("IsDesk of ", d), impl.IsDesk(d), true)
	}
	for _, d := range badDesks(t) {
		same(t, fmt.Sprint("IsDesk of ", d.Graph.Size, len(d.Graph.Edges), d.Signs, d.Chips), impl.IsDesk(d), false)
	}
}

// mayFail tells the commands whose lines may be wrong although their words are right.
func mayFail(command string) bool {
	return !slices.Contains([]string{"prune", "show", "sheets", "purse", "degrees", "rank", "zeta", "factor", "pole", "signed", "spectrum",
		"automorphisms", "factors", "number", "reset"}, command)
}

// Each line of the table, on all kinds of desks.
func TestEachLineOfTheTable(t *testing.T) {
	d := dice(123)
	found := map[string]int{}
	for _, desk := range sampleDesks(t) {
		for _, line := range linesFor(&d, desk) {
			command, words, _ := strings.Cut(line, " ")
			_, output := checkLine(t, desk, line)
			_, _, fit := wordsBehind(commandWords()[command], strings.Fields(words))
			switch {
			case output != "error":
				found[command]++
			case fit:
				found[command+" refused"]++
			}
		}
	}
	for _, command := range commandNames() {
		if found[command] < 40 || mayFail(command) != (found[command+" refused"] > 10) {
			t.Errorf("%s: %d right lines, %d refused ones", command, found[command], found[command+" refused"])
		}
	}
}

// Lines that give G a graph lead to the fresh desk, even if the graph is the same one as before.
func TestGraphsComeWithFreshDesks(t *testing.T) {
	desk := deskOf(t, "3:0-1,1-2,2-0", []int64{-1, 1, -1}, []int64{2, -1, 5})
	for _, line := range []string{"graph 3:0-1,1-2,2-0", "named triangle", "prune", "cyclic 1 0 5 -3", "renumber 0 1 2", "reset"} {
		after, _ := checkLine(t, desk, line)
		same(t, "desk after "+line, after, impl.NewDesk())
	}
	path := deskOf(t, "3:0-1,1-2", []int64{-1, 1}, []int64{2, -1, 5})
	for line, text := range map[string]string{"delete 0": "3:1-2", "contract 1": "2:0-1", "subdivide 0": "4:0-3,1-2,3-1", "double": "6:0-3,1-2,2-4,3-5",
		"cyclic 2 0 1": "6:0-2,1-3,2-5,3-4", "complement": "3:0-2", "switch": "3:0-1,1-2", "switch 0 1": "3:0-1,0-2", "switch 0 1 2": "", "prune": "1:"} {
		after, output := checkLine(t, path, line)
		if text == "" {
			same(t, line, output, "error")
			continue
		}
		same(t, line, output, text)
		same(t, "desk after "+line, after, freshOf(parsed(t, text)))
	}
	// What does not give a graph keeps the other parts.
	for line, want := range map[string]impl.Desk{
		"signs 1 -1":  {Graph: path.Graph, Signs: []int64{1, -1}, Chips: path.Chips},
		"chips 0 1 0": {Graph: path.Graph, Signs: path.Signs, Chips: []int64{0, 1, 0}},
		"fire 2":      {Graph: path.Graph, Signs: path.Signs, Chips: []int64{2, 0, 4}},
		"reduce 1":    {Graph: path.Graph, Signs: path.Signs, Chips: []int64{0, 6, 0}},
	} {
		after, _ := checkLine(t, path, line)
		same(t, "desk after "+line, after, want)
	}
}

// transcript is a list of lines, each followed by its output.
type transcript []string

// checkTranscript checks the outputs of lines, one after the other, on a new desk.
func checkTranscript(t *testing.T, lines transcript) {
	t.Helper()
	d, text, want := impl.NewDesk(), "", ""
	for i := 0; i < len(lines); i += 2 {
		after, output := checkLine(t, d, lines[i])
		same(t, fmt.Sprint("output ", i/2, " of ", lines[i]), output, lines[i+1])
		d, text, want = after, text+lines[i]+"\n", want+lines[i+1]+"\n"
	}
	same(t, "Console", impl.Console(text), want)
	last, ok := impl.DeskAfter(text)
	same(t, "DeskAfter", last, d)
	same(t, "DeskAfter", ok, true)
}

func TestLinesOnTheNewDeskByText(t *testing.T) {
	checkTranscript(t, transcript{
		"show", "3:0-1,1-2,2-0", "sheets", "1 1 1", "purse", "0 0 0", "degrees", "2 2 2", "rank", "1",
		"zeta", "1 0 0 -2 0 0 1", "factor", "1 0 0 -2 0 0 1", "counts 6", "0 0 6 0 0 6", "primes 6", "0 0 2 0 0 0", "counts 1", "0",
		"series 6", "1 0 0 2 0 0 3", "series 0", "1", "pole", "2", "signed", "1 0 0 -2 0 0 1", "straight", "no", "straight 0 2 4", "yes",
		"straight 2 4 0", "yes", "straight 0 2", "no", "straight 0 1", "no", "straight 6", "error", "straight -1", "error", "bartholdi 7 0", "1 0 0 5 0 0 1",
		"spectrum", "1 0 -3 -2", "automorphisms", "6", "same 3:2-1,0-2,1-0", "yes", "same 3:0-1,1-2", "no", "same 4:", "no", "same 0:", "error",
		"factors", "1 3 0", "classes", "3", "order", "1", "number", "0"})
	checkTranscript(t, transcript{"signs -1 1 1", "-1 1 1", "sheets", "-1 1 1", "number", "4", "signed", "1 0 0 2 0 0 1", "zeta", "1 0 0 -2 0 0 1",
		"signs", "error", "signs 1 1", "error", "signs 1 1 1 1", "error", "signs 1 0 1", "error", "signs 1 2 1", "error", "sheets", "-1 1 1",
		"double", "6:0-3,1-2,2-4,3-5,4-0,5-1", "sheets", "1 1 1 1 1 1", "purse", "0 0 0 0 0 0", "classes", "6", "double", "error", "show", "6:0-3,1-2,2-4,3-5,4-0,5-1"})
	checkTranscript(t, transcript{"chips -1 1 0", "-1 1 0", "order", "3", "fire 1", "0 -1 1", "fire 0", "-2 0 2", "fire 3", "error", "fire -1", "error", "purse", "-2 0 2",
		"reduce 0", "-1 1 0", "reduce 2", "1 0 -1", "reduce 3", "error", "chips", "error", "chips 0 0", "error", "chips 0 0 0 0", "error",
		"chips 200 -200 201", "error", "purse", "1 0 -1", "chips 200 -200 200", "200 -200 200", "order", "error", "fire 1", "error", "reset", "ok",
		"purse", "0 0 0"})
	checkTranscript(t, transcript{"delete 3", "error", "delete -1", "error", "delete 1", "3:0-1,2-0", "sheets", "1 1", "complement", "3:1-2", "rank", "0",
		"classes", "error", "reduce 0", "error", "order", "error", "factors", "1 0 0", "reset", "ok", "show", "3:0-1,1-2,2-0"})
}

func TestLinesOnOtherDesksByText(t *testing.T) {
	checkTranscript(t, transcript{"named point", "1:", "sheets", "none", "purse", "0", "degrees", "0", "rank", "0", "zeta", "1", "factor", "1 0 -1", "counts 2", "0 0",
		"pole", "0", "signs", "none", "signs 1", "error", "signed", "1", "straight", "no", "straight 0", "error", "bartholdi 2 1", "1", "spectrum", "1",
		"automorphisms", "1", "factors", "0", "classes", "1", "order", "1", "number", "0", "chips 7", "7", "reduce 0", "7", "fire 0", "7", "order", "error",
		"prune", "1:", "purse", "0", "double", "2:", "cyclic 4", "8:", "cyclic 2", "error", "automorphisms", "40320"})
	checkTranscript(t, transcript{"named loop", "1:0-0", "zeta", "1 -2 1", "factor", "1 -2 1", "degrees", "2", "contract 0", "error", "signs -1", "-1", "signed", "1 2 1", "number", "4",
		"double", "2:0-1,1-0", "delete 1", "2:0-1", "prune", "1:", "graph 1:0-0", "1:0-0", "subdivide 0", "2:0-1,1-0", "subdivide 1", "3:0-1,1-2,2-0",
		"graph 2:0-1,1-0,0-0", "2:0-1,1-0,0-0", "contract 1", "1:0-0,0-0", "same 1:0-0,0-0", "yes", "same 2:0-0,0-0", "no",
		"complement", "error", "switch", "error", "show", "1:0-0,0-0"})
	checkTranscript(t, transcript{"named theta", "2:0-1,0-1,0-1", "zeta", "1 0 -6 0 9 0 -4", "automorphisms", "2", "chips 3 -3", "3 -3", "order", "1", "chips 1 -1", "1 -1",
		"order", "3", "classes", "3", "reduce 0", "-2 2", "fire 0", "-5 5", "complement", "error", "cyclic 2 0 1 0", "4:0-2,1-3,0-3,1-2,0-2,1-3", "cyclic 2 0 0 0 0 0 0", "error",
		"cyclic 1 0 0 0 0 0", "error", "cyclic 0 0 0 0 0 0 0", "error", "cyclic 5 0 0 0 0 0 0", "error", "cyclic 1 1000 -1000 0 0 0 0", "4:0-2,1-3,0-3,1-2,0-2,1-3",
		"cyclic 1 1001 0 0 0 0 0", "error"})
	checkTranscript(t, transcript{"graph 4:0-1,2-3", "4:0-1,2-3", "rank", "0", "complement", "4:0-2,0-3,1-2,1-3", "renumber 1 0 2 3", "4:1-2,1-3,0-2,0-3",
		"renumber 0 1 2", "error", "renumber 0 1 2 2", "error", "renumber", "error", "switch 0 2", "4:0-1,0-2,1-3,2-3", "named square", "4:0-1,1-2,2-3,3-0",
		"switch 0 1 2 3", "4:0-1,0-3,1-2,2-3", "switch 1 0", "error", "switch 4", "error", "switch 0 1", "4:0-1,0-2,1-3,2-3"})
}

// Each command that calls a function is refused where this returns another code than ErrNone, and not
// just ahead of there.
func TestLinesThatFunctionsRefuseByText(t *testing.T) {
	const nineLoops, tenLoops = "1:0-0,0-0,0-0,0-0,0-0,0-0,0-0,0-0,0-0", "1:0-0,0-0,0-0,0-0,0-0,0-0,0-0,0-0,0-0,0-0"
	checkTranscript(t, transcript{"graph 8:0-1", "8:0-1", "subdivide 0", "error", "subdivide 1", "error", "complement", "error", "graph 7:0-1", "7:0-1", "subdivide 0", "8:0-7,7-1",
		"graph " + tenLoops, tenLoops, "subdivide 9", "error", "contract 9", "error", "delete 10", "error", "delete 9", nineLoops, "subdivide 0", "2:0-1,0-0,0-0,0-0,0-0,0-0,0-0,0-0,0-0,1-0",
		"named fly", "error", "graph fly", "error", "same fly", "error", "degrees", "18 2"})
	checkTranscript(t, transcript{"graph 6:", "6:", "complement", "error", "graph 5:", "5:", "complement", "5:0-1,0-2,0-3,0-4,1-2,1-3,1-4,2-3,2-4,3-4", "complement", "5:",
		"graph 2:0-1,1-0", "2:0-1,1-0", "complement", "error", "switch", "error", "switch 0 2", "error", "named star", "4:0-1,0-2,0-3", "switch 1 2", "4:0-1,0-2,0-3", "switch 0 1 2", "error", "switch 0 4", "error",
		"switch 1 0", "error", "switch 0 0", "error", "renumber 1 2 3 4", "error", "renumber 1 2 3 3", "error", "renumber 3 2 1 0", "4:3-2,3-1,3-0"})
	checkTranscript(t, transcript{"named edge", "2:0-1", "chips 200 -200", "200 -200", "fire 1", "error", "fire 2", "error", "fire -1", "error", "fire 0", "199 -199", "fire 1", "200 -200",
		"order", "1", "chips 1 0", "1 0", "order", "error", "delete 0", "2:", "order", "error", "classes", "error", "reduce 1", "error", "fire 1", "0 0"})
	checkTranscript(t, transcript{"counts 0", "error", "counts 11", "error", "counts 10", "0 0 6 0 0 6 0 0 6 0", "primes 0", "error", "primes 1", "0", "series -1", "error", "series 11", "error",
		"series 10", "1 0 0 2 0 0 3 0 0 4 0", "straight 0 2 4 0 2 4 0 2 4 0 2 4 0 2 4 0 2 4", "yes", "straight 0 2 4 0 2 4 0 2 4 0 2 4 0 2 4 0 2 4 0 2", "no",
		"straight 0 2 4 0 2 4 0 2 4 0 2 4 0 2 4 0 2 4 0 2 4", "error", "straight 5 3 1", "yes", "straight 0 2 6", "error", "bartholdi 2 1", "1 0 1", "bartholdi 2 2", "error", "bartholdi 1 0", "error",
		"bartholdi 9 0", "error", "bartholdi 7 7", "error", "bartholdi 7 -1", "error", "cyclic 2 0 0", "error", "cyclic 5 0 0 0", "error", "cyclic 2 0 0 1001", "error", "cyclic 3 0 0 0", "error"})
}

// Graphs that look alike need not be isomorphic, and the line tells them apart.
func TestSameTellsIsomorphicGraphs(t *testing.T) {
	for _, c := range alikeCases() {
		checkTranscript(t, transcript{"graph " + c.first, c.first, "same " + c.second, "no", "same " + c.first, "yes", "graph " + c.second, c.second,
			"same " + c.first, "no", "same " + c.second, "yes"})
	}
}
