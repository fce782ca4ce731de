package tests

import (
	"fmt"
	"math"
	"runtime"
	"slices"
	"strings"
	"sync"
	"testing"

	"loop.example/g01298/impl"
)

// longDesk returns a desk on which there is a right line of each command.
func longDesk(t *testing.T) impl.Desk {
	return deskOf(t, "4:0-1,1-2,2-3,3-0,0-2", []int64{1, -1, 1, 1, -1}, []int64{2, -1, 0, -1})
}

// rightLines returns a right line of each command on the long desk.
func rightLines() []string {
	return []string{"graph 2:0-1,1-1", "named houses", "delete 4", "contract 0", "subdivide 3", "prune", "double", "cyclic 2 0 1 0 -1 1", "renumber 3 1 0 2", "complement",
		"switch 0 2", "signs -1 1 1 -1 1", "chips 0 5 -5 0", "fire 1", "reduce 2", "show", "sheets", "purse", "degrees", "rank", "zeta", "factor", "counts 4", "primes 10",
		"series 0", "pole", "signed", "straight 0 2 9", "straight", "bartholdi 101 100", "spectrum", "automorphisms", "same 4:0-1,1-2,2-3,3-0,1-3", "factors",
		"classes", "order", "number", "reset"}
}

func TestRightLines(t *testing.T) {
	d := longDesk(t)
	var commands []string
	for _, line := range rightLines() {
		if _, output := checkLine(t, d, line); output == "error" {
			t.Errorf("the line %q is refused", line)
		}
		commands = append(commands, strings.Split(line, " ")[0])
	}
	slices.Sort(commands)
	same(t, "commands with a right line", slices.Compact(commands), commandNames())
}

// isOpen reports whether any number of numbers may be behind a command.
func isOpen(command string) bool { return strings.HasSuffix(commandWords()[command], "N") }

func TestWordsThatAreMissingOrOneTooMany(t *testing.T) {
	d := longDesk(t)
	for _, line := range rightLines() {
		words := strings.Split(line, " ")
		if !isOpen(words[0]) {
			for _, more := range []string{"0", "1", "-1", "triangle", "3:0-1", "x"} {
				checkError(t, d, line+" "+more)
			}
			for n := 1; n < len(words); n++ {
				checkError(t, d, strings.Join(words[:n], " "))
			}
		}
		// A number more or less makes another list, which may be right.
		checkLine(t, d, line+" 0")
		checkLine(t, d, line+" 1 1")
		checkLine(t, d, words[0])
		checkLine(t, d, strings.Join(words[:len(words)-1], " "))
		for _, more := range []string{"x", "triangle", "3:0-1", "show", "00"} {
			checkError(t, d, line+" "+more)
		}
		checkError(t, d, strings.Join(words[1:], " "))
		checkError(t, d, words[0]+line)
		checkError(t, d, line+line)
	}
	checkError(t, d, "cyclic")
	checkError(t, d, "bartholdi 7")
}

// Blanks at the end of a line, ahead of the first word, and doubled between words make empty words,
// which are too many, or no numbers.
func TestEmptyWords(t *testing.T) {
	d := longDesk(t)
	for _, line := range rightLines() {
		for at := range len(line) + 1 {
			if at == 0 || at == len(line) || line[at] == ' ' {
				checkError(t, d, line[:at]+" "+line[at:])
				checkError(t, d, line[:at]+"  "+line[at:])
			}
		}
	}
	for _, line := range []string{"", " ", "  ", "       ", " show", "show ", "straight ", "signs ", "graph ", "named ", "same ", "delete "} {
		checkError(t, d, line)
	}
	point := deskOf(t, "1:", nil, []int64{3})
	for line, want := range map[string]string{"signs": "none", "signs ": "error", "sheets": "none", "sheets ": "error", "switch": "1:", "switch ": "error",
		"straight": "no", "straight ": "error", "cyclic 3": "3:", "cyclic 3 ": "error", "renumber": "error", "chips": "error", "renumber 0": "1:", "renumber 0 ": "error"} {
		_, output := checkLine(t, point, line)
		same(t, line, output, want)
	}
}

// wrongNumbers returns words that are no numbers.
func wrongNumbers() []string {
	return []string{"", "00", "01", "02", "007", "000000000", "0000000001", "-0", "-00", "-01", "+0", "+1", "+", "-", "--1", "- 1", "-+1", "1-", "1.", "1.0", ".5", "1e0", "0x1", "0b1", "1_0",
		"1,2", "1;", "a", "one", "1a", "a1", "\x00", "1\x00", "\x001", "\t1", "1\t", "1\r", "\n", "1\n", "\v1", "\u00a01", "1\u00a0", "\uff11", "\u0661", "\xff", "1\xff", "1/", "1:", "\u22121",
		"1000000000", "-1000000000", "0000000000", "2147483648", "4294967296", "-4294967295", "9223372036854775807", "9223372036854775808", "18446744073709551616",
		"18446744073709551617", "-9223372036854775809", "99999999999999999999999999999999", strings.Repeat("1", 1000), strings.Repeat("0", 1000)}
}

func TestWordsThatAreNoNumbers(t *testing.T) {
	d := longDesk(t)
	for _, line := range rightLines() {
		words := strings.Split(line, " ")
		if commandWords()[words[0]] == "T" {
			continue
		}
		for at := 1; at < len(words); at++ {
			for _, wrong := range wrongNumbers() {
				changed := slices.Clone(words)
				changed[at] = wrong
				checkError(t, d, strings.Join(changed, " "))
			}
			// The same number in another writing is none either.
			for _, ahead := range []string{"0", "+", "00", "-0", "--"} {
				changed := slices.Clone(words)
				changed[at] = ahead + words[at]
				checkError(t, d, strings.Join(changed, " "))
			}
		}
	}
	loop := deskOf(t, "1:0-0", []int64{1}, []int64{0})
	for _, line := range []string{"chips -0", "chips 00", "chips +0", "delete -0", "delete 00", "fire +0", "reduce 00", "series 01", "signs +1", "signs 01", "straight 00", "straight -0",
		"renumber 00", "renumber -0", "cyclic 01 0", "cyclic 1 -0", "bartholdi 07 0", "bartholdi 7 00", "switch -0"} {
		checkError(t, loop, line)
	}
}

// Numbers with nine digits are numbers, which no function takes; those with fewer may be right.
func TestNumbersWithManyDigits(t *testing.T) {
	d := longDesk(t)
	for _, command := range commandNames() {
		for _, n := range []int64{99999999, 100000000, 999999999, -999999999, 1000000000, -1000000000} {
			_, output := checkLine(t, d, lineWith(command, n))
			same(t, lineWith(command, n), output, "error")
		}
	}
	checkTranscript(t, transcript{"bartholdi 10007 10006", "1 0 10004 10005", "bartholdi 10007 10007", "error", "bartholdi 10009 0", "error",
		"cyclic 1 -1000 1000 0", "3:0-1,1-2,2-0", "chips -200 200 0", "-200 200 0", "primes 10", "0 0 2 0 0 0 0 0 0 0", "primes 11", "error"})
}

// Commands in other letters, with something around them, and with other bytes than blanks behind them.
func TestOtherCommands(t *testing.T) {
	d := longDesk(t)
	for _, line := range rightLines() {
		command, rest, _ := strings.Cut(line, " ")
		for at := range len(command) {
			other := strings.ToUpper(command[at : at+1])
			checkError(t, d, command[:at]+other+line[at+1:])
			if _, known := commandWords()[command[:at]+command[at+1:]]; !known {
				checkError(t, d, line[:at]+line[at+1:])
			}
		}
		for _, other := range []string{"\t", "\n", "\r", "\v", "\x00", "\x1f", "!", ",", ";", "_", "\u00a0", "\u2003", "\xff", "\x80", "x"} {
			checkError(t, d, line+other)
			checkError(t, d, other+line)
			checkError(t, d, command+other+rest)
		}
	}
	for _, line := range []string{"help", "quit", "exit", "deletes 0", "delete-0", "delete0", "-", "0", "1 2", "zeta zeta", "tree", "trees", "girth", "bipartite", "line", "text", "SHOW", "Zeta", "reset reset",
		"graph triangle", "named 3:0-1,1-2,2-0", "named Triangle", "named triangle1", "same triangle", "ok", "error", "none", "\x00", "\n", "show\nshow"} {
		checkError(t, d, line)
	}
}

// Texts that are none of a graph.
func TestTextsOfNoGraph(t *testing.T) {
	d := longDesk(t)
	for _, text := range []string{"0:", "9:", "-1:", "1", ":", "", "3:0-1,", "3:,0-1", "3:0-3", "3:0-1,1", "03:0-1", "3:00-1", "3:0-01", "3:0--1", "3:0-1;1-2", "3:0-1 1-2", "3: 0-1", "3:0-1\n",
		"3:0-1\r", "+3:0-1", "1:0-0,0-0,0-0,0-0,0-0,0-0,0-0,0-0,0-0,0-0,0-0", "triangle", "3.0-1", "3:0_1", "3:0-1:", strings.Repeat("8:0-1,", 1000)} {
		for _, command := range []string{"graph", "same"} {
			checkError(t, d, command+" "+text)
		}
	}
	checkTranscript(t, transcript{"same 1:0-0,0-0,0-0,0-0,0-0,0-0,0-0,0-0,0-0,0-0,0-0", "error", "same 8:", "no", "graph 8:0-1,1-2,2-3,3-4,4-5,5-6,6-7,7-0,0-4,2-6",
		"8:0-1,1-2,2-3,3-4,4-5,5-6,6-7,7-0,0-4,2-6", "graph 8:0-8", "error", "graph 1:", "1:", "same 1:", "yes", "same 1:0-0", "no"})
}

// Double covers and cyclic ones at the limits, and beyond them.
func TestDerivedGraphsOnTheDesk(t *testing.T) {
	checkTranscript(t, transcript{"named square", "4:0-1,1-2,2-3,3-0", "double", "8:0-2,1-3,2-4,3-5,4-6,5-7,6-0,7-1", "double", "error", "cyclic 2 0 0 0 0 0 0 0 0", "error",
		"named pentagon", "5:0-1,1-2,2-3,3-4,4-0", "double", "error", "cyclic 2 0 0 0 0 1", "error", "sheets", "1 1 1 1 1",
		"graph 1:0-0,0-0,0-0,0-0,0-0", "1:0-0,0-0,0-0,0-0,0-0", "signs 1 -1 1 -1 1", "1 -1 1 -1 1",
		"double", "2:0-0,1-1,0-1,1-0,0-0,1-1,0-1,1-0,0-0,1-1", "graph 1:0-0,0-0,0-0,0-0,0-0,0-0", "1:0-0,0-0,0-0,0-0,0-0,0-0", "double", "error", "cyclic 2 0 0 0 0 0 1", "error",
		"graph 2:0-1,0-1", "2:0-1,0-1", "cyclic 4 0 1", "8:0-4,1-5,2-6,3-7,0-5,1-6,2-7,3-4"})
	checkTranscript(t, transcript{"named edge", "2:0-1", "cyclic 4 -1", "8:0-7,1-4,2-5,3-6", "named edge", "2:0-1", "cyclic 5 0", "error", "cyclic 0 0", "error", "cyclic -1 0", "error",
		"cyclic 3 0", "6:0-3,1-4,2-5", "named star", "4:0-1,0-2,0-3", "cyclic 3 0 0 0", "error", "cyclic 2 0 0", "error", "cyclic 2 0 0 1", "8:0-2,1-3,0-4,1-5,0-7,1-6"})
}

// Reduced forms whose number at the vertex is at the limit, and beyond it.
func TestReducedChipsThatAreNone(t *testing.T) {
	checkTranscript(t, transcript{"named edge", "2:0-1", "chips 100 100", "100 100", "reduce 0", "200 0", "chips 101 100", "101 100", "reduce 0", "error", "purse", "101 100", "reduce 1", "error",
		"chips -100 -100", "-100 -100", "reduce 1", "0 -200", "chips -100 -101", "-100 -101", "reduce 0", "error", "purse", "-100 -101",
		"chips 200 -200", "200 -200", "reduce 0", "0 0", "chips 200 200", "200 200", "reduce 1", "error", "purse", "200 200"})
	checkTranscript(t, transcript{"chips 200 200 200", "200 200 200", "reduce 0", "error", "chips 200 0 1", "200 0 1", "reduce 0", "200 0 1", "chips 200 2 0", "200 2 0", "reduce 0", "error",
		"chips 199 1 1", "199 1 1", "reduce 0", "error", "chips 198 1 1", "198 1 1", "reduce 0", "200 0 0", "chips -200 -1 0", "-200 -1 0", "reduce 0", "error",
		"reduce 1", "error", "purse", "-200 -1 0"})
	d := dice(131)
	for _, desk := range sampleDesks(t) {
		for range 3 {
			desk.Chips = rolledChips(&d, desk.Graph.Size, 200)
			v := d.below(desk.Graph.Size)
			form, code := impl.ReduceChips(desk.Graph, desk.Chips, v)
			if _, output := checkLine(t, desk, lineWith("reduce", v)); code == impl.ErrNone && !areWithin(form) {
				same(t, fmt.Sprint("reduce on ", desk), output, "error")
			}
		}
	}
}

// Lines of rolled bytes that occur in lines.
func TestLinesOfRolledBytes(t *testing.T) {
	d := dice(132)
	desks := sampleDesks(t)
	bytes := "0123-:, 0123-:, +\t\n\x00\xffaZ"
	right := 0
	for range 20000 {
		desk := desks[d.below(int64(len(desks)))]
		names := commandNames()
		line := names[d.below(int64(len(names)))]
		for range d.below(5) {
			at := d.below(int64(len(bytes)))
			line += bytes[at : at+1]
		}
		if d.below(4) == 0 {
			at := d.below(int64(len(line)))
			line = line[:at] + line[at+1:]
		}
		if _, output := checkLine(t, desk, line); output != "error" {
			right++
		}
	}
	if right < 1000 {
		t.Errorf("there are %d right lines only", right)
	}
}

// badDesks returns desks that are none, each for one reason.
func badDesks(t *testing.T) []impl.Desk {
	var desks []impl.Desk
	for _, g := range badGraphs() {
		size := int(max(0, min(g.Size, 9)))
		desks = append(desks, impl.Desk{Graph: g}, impl.Desk{Graph: g, Signs: filled(len(g.Edges), 1), Chips: filled(size, 0)})
	}
	for _, g := range deskGraphs(t) {
		n, m := int(g.Size), len(g.Edges)
		for _, signs := range wrongSigns(m) {
			desks = append(desks, impl.Desk{Graph: g, Signs: signs, Chips: filled(n, 0)})
		}
		for _, chips := range wrongChips(g.Size) {
			desks = append(desks, impl.Desk{Graph: g, Signs: filled(m, 1), Chips: chips})
		}
		desks = append(desks, impl.Desk{Graph: g})
	}
	return desks
}

// wrongSigns returns lists that are no signs of a graph with m edges.
func wrongSigns(m int) [][]int64 {
	lists := [][]int64{filled(m+1, 1), filled(m+1, -1), filled(1000, 1), append(filled(m, 1), 0)}
	if m == 0 {
		return lists
	}
	lists = append(lists, nil, filled(m-1, 1))
	for _, number := range []int64{0, 2, -2, 1<<32 + 1, 1<<32 - 1, 255, math.MaxInt64, math.MinInt64} {
		lists = append(lists, filled(m, number))
		for k := range m {
			list := filled(m, 1)
			list[k] = number
			lists = append(lists, list)
		}
	}
	return lists
}

func TestRunLineRefusesWhatIsNoDesk(t *testing.T) {
	lines := append(rightLines(), "", " ", "fly", "graph 1:", "named triangle", "signs", "chips 0", "delete", "show ")
	for _, d := range badDesks(t) {
		for _, line := range lines {
			after, output := impl.RunLine(d, line)
			what := fmt.Sprint(line, " on ", d.Graph.Size, len(d.Graph.Edges), d.Signs, d.Chips)
			same(t, "output of "+what, output, "")
			same(t, "desk after "+what, after, impl.Desk{})
		}
	}
}

// byLines returns the desk after the lines of a text and their outputs, each line by itself.
func byLines(text string) (impl.Desk, string) {
	d, outputs, line := impl.NewDesk(), "", ""
	run := func() {
		if line == "" {
			return
		}
		after, output := impl.RunLine(d, line)
		d, outputs, line = after, outputs+output+"\n", ""
	}
	for at := range len(text) {
		if text[at] == '\n' {
			run()
			continue
		}
		line += text[at : at+1]
	}
	run()
	return d, outputs
}

// checkText checks the outputs of a text within the limits, and the desk after it.
func checkText(t *testing.T, text string) string {
	t.Helper()
	want, outputs := byLines(text)
	same(t, fmt.Sprintf("Console of %q", text), impl.Console(text), outputs)
	after, ok := impl.DeskAfter(text)
	same(t, fmt.Sprintf("DeskAfter %q", text), after, want)
	same(t, fmt.Sprintf("DeskAfter %q", text), ok, true)
	return outputs
}

// checkTextRefused checks that a text is beyond the limits.
func checkTextRefused(t *testing.T, text string) {
	t.Helper()
	same(t, fmt.Sprintf("Console of %d bytes", len(text)), impl.Console(text), "")
	after, ok := impl.DeskAfter(text)
	same(t, fmt.Sprintf("DeskAfter %d bytes", len(text)), after, impl.Desk{})
	same(t, fmt.Sprintf("DeskAfter %d bytes", len(text)), ok, false)
}

// The console joins the outputs of its lines, which lead from desks to desks.
func TestTextsOfRolledLines(t *testing.T) {
	d := dice(133)
	wrong, right := 0, 0
	for range 400 {
		desk := impl.NewDesk()
		text := ""
		for count := d.between(1, 40); count > 0; count-- {
			if d.below(8) == 0 {
				text += "\n"
				continue
			}
			all := linesFor(&d, desk)
			line := all[d.below(int64(len(all)))]
			if len(text)+len(line)+1 > 4000 {
				break
			}
			after, output := checkLine(t, desk, line)
			text += line + "\n"
			if line == "" {
				continue
			}
			desk = after
			if output == "error" {
				wrong++
			} else {
				right++
			}
		}
		checkText(t, text)
		after, _ := impl.DeskAfter(text)
		same(t, fmt.Sprintf("desk after %q", text), after, desk)
		checkText(t, strings.TrimSuffix(text, "\n"))
	}
	if wrong < 1000 || right < 1000 {
		t.Errorf("there are %d wrong lines and %d right ones", wrong, right)
	}
}

func TestLinesOfTexts(t *testing.T) {
	for text, want := range map[string]string{
		"":                             "",
		"\n":                           "",
		"\n\n\n":                       "",
		"show":                         "3:0-1,1-2,2-0\n",
		"show\n":                       "3:0-1,1-2,2-0\n",
		"\nshow":                       "3:0-1,1-2,2-0\n",
		"\n\nshow\n\n\nrank\n\n":       "3:0-1,1-2,2-0\n1\n",
		"show\nrank":                   "3:0-1,1-2,2-0\n1\n",
		" ":                            "error\n",
		" \n":                          "error\n",
		"\n \n":                        "error\n",
		"show\r\nrank\r\n":             "error\nerror\n",
		"show\rrank":                   "error\n",
		"show \nrank":                  "error\n1\n",
		"show\n rank":                  "3:0-1,1-2,2-0\nerror\n",
		"fly":                          "error\n",
		"delete 0\nfly\nshow":          "3:1-2,2-0\nerror\n3:1-2,2-0\n",
		"delete 0\n\ndelete 0\nreset":  "3:1-2,2-0\n3:2-0\nok\n",
		"graph 1:\nsigns\nfire 0":      "1:\nnone\n0\n",
		"\x00\n\xff":                   "error\nerror\n",
		"named star\nprune\nnamed fly": "4:0-1,0-2,0-3\n1:\nerror\n",
	} {
		same(t, fmt.Sprintf("outputs of %q", text), checkText(t, text), want)
	}
	after, ok := impl.DeskAfter("")
	same(t, "DeskAfter the empty text", after, impl.NewDesk())
	same(t, "DeskAfter the empty text", ok, true)
	after, ok = impl.DeskAfter("chips 1 2 3\nfly\n\nsigns 1 -1 1")
	same(t, "DeskAfter", after, impl.Desk{Graph: impl.NewDesk().Graph, Signs: []int64{1, -1, 1}, Chips: []int64{1, 2, 3}})
	same(t, "DeskAfter", ok, true)
}

func TestTextsOfManyLines(t *testing.T) {
	for text, want := range map[string]string{
		strings.Repeat("rank\n", 40):                                    strings.Repeat("1\n", 40),
		strings.Repeat("rank\n", 39) + "rank":                           strings.Repeat("1\n", 40),
		strings.Repeat("\n", 40):                                        "",
		strings.Repeat("\n", 39) + "rank":                               "1\n",
		strings.Repeat("\n", 39) + "rank\n":                             "1\n",
		strings.Repeat("rank\n\n", 20):                                  strings.Repeat("1\n", 20),
		"rank\n" + strings.Repeat("\n", 38) + "rank":                    "1\n1\n",
		strings.Repeat(" \n", 40):                                       strings.Repeat("error\n", 40),
		strings.Repeat("rank\n", 20) + strings.Repeat("\n", 19) + "fly": strings.Repeat("1\n", 20) + "error\n",
	} {
		same(t, fmt.Sprintf("outputs of %q", text), checkText(t, text), want)
	}
	for _, text := range []string{
		strings.Repeat("rank\n", 41), strings.Repeat("rank\n", 40) + "rank", strings.Repeat("\n", 41), strings.Repeat("\n", 40) + "rank", strings.Repeat("\n", 40) + " ",
		strings.Repeat("rank\n\n", 20) + "\n", strings.Repeat("rank\n\n", 20) + "rank", "rank\n" + strings.Repeat("\n", 40), strings.Repeat("\n", 1000),
		"rank" + strings.Repeat("\n", 41), strings.Repeat("\n", 4000), strings.Repeat("a\n", 2000),
	} {
		checkTextRefused(t, text)
	}
}

func TestTextsOfManyBytes(t *testing.T) {
	for n, length := range []int{1, 2, 7, 39} {
		// The last line is as long as the text needs to have just so many bytes.
		begin := strings.Repeat("rank\n", length)
		for _, last := range []string{"x", "0", " ", "\x00", "\xff", "chips 1 1 1 "} {
			rest := strings.Repeat(last, 4000)
			just := begin + rest[:4000-len(begin)]
			same(t, fmt.Sprint("outputs of text ", n), checkText(t, just), strings.Repeat("1\n", length)+"error\n")
			same(t, fmt.Sprint("outputs of text ", n), checkText(t, just[:3999]+"\n"), strings.Repeat("1\n", length)+"error\n")
			same(t, fmt.Sprint("outputs of text ", n), checkText(t, just[:3999]), strings.Repeat("1\n", length)+"error\n")
			checkTextRefused(t, just+last[:1])
			checkTextRefused(t, just+"\n")
			checkTextRefused(t, begin+rest)
		}
	}
	// Bytes are counted, not letters.
	same(t, "outputs", checkText(t, strings.Repeat("\u00e9", 2000)), "error\n")
	checkTextRefused(t, strings.Repeat("\u00e9", 2000)+"x")
	checkTextRefused(t, strings.Repeat("\u00e9", 4000))
	wide := "straight" + strings.Repeat(" 0", 1995)
	same(t, "outputs", checkText(t, wide+"\n\n"), "error\n")
	checkTextRefused(t, wide+"\n\n\n")
	checkTextRefused(t, strings.Repeat("x", 1000000))
}

// deskMemory returns a text of all memory of a desk.
func deskMemory(d impl.Desk) string {
	return wholeRows(d.Graph.Edges) + wholeMemory(d.Signs) + wholeMemory(d.Chips)
}

// checkOwnDesk fails the test if slices of a desk share memory with each other, or with what the function
// is given: it has to return the same after its result was overwritten.
func checkOwnDesk(t *testing.T, what string, f func() impl.Desk) {
	t.Helper()
	d := f()
	before := fmt.Sprint(d)
	lists := append(slices.Clone(d.Graph.Edges), d.Signs, d.Chips)
	ownRows(t, what, lists)
	for k := range d.Graph.Edges[:cap(d.Graph.Edges)] {
		d.Graph.Edges[:cap(d.Graph.Edges)][k] = nil
	}
	same(t, what, fmt.Sprint(f()), before)
}

func TestDesksShareNoMemory(t *testing.T) {
	d := dice(134)
	for _, sample := range sampleDesks(t) {
		desk := impl.Desk{Graph: roomyGraph(sample.Graph), Signs: roomy(sample.Signs), Chips: roomy(sample.Chips)}
		before := deskMemory(desk)
		lines := append(linesFor(&d, desk), "show ", "signs 3", "chips 999", "fire 0", "sheets", "purse")
		for _, line := range lines {
			checkOwnDesk(t, line, func() impl.Desk {
				after, _ := impl.RunLine(desk, line)
				return after
			})
		}
		impl.IsDesk(desk)
		same(t, fmt.Sprint("memory of ", sample), deskMemory(desk), before)
	}
	for _, desk := range badDesks(t) {
		if cap(desk.Graph.Edges) != len(desk.Graph.Edges) {
			continue
		}
		roomier := impl.Desk{Graph: roomyGraph(desk.Graph), Signs: roomy(desk.Signs), Chips: roomy(desk.Chips)}
		before := deskMemory(roomier)
		impl.IsDesk(roomier)
		impl.RunLine(roomier, "delete 0")
		same(t, "memory of a desk that is none", deskMemory(roomier), before)
	}
	for _, text := range []string{"", "chips 1 2 3\nsigns 1 -1 1", "named houses\nfire 0", "reset", "fly"} {
		checkOwnDesk(t, text, func() impl.Desk {
			after, _ := impl.DeskAfter(text)
			return after
		})
	}
}

// consoleResults returns a text of what comes of lines on a desk, and of the same lines as a text.
func consoleResults(d impl.Desk, lines []string) string {
	results := ""
	for _, line := range lines {
		after, output := impl.RunLine(d, line)
		results += fmt.Sprint(after, output, "\n")
	}
	text := strings.Join(lines[:min(len(lines), 40)], "\n")
	after, ok := impl.DeskAfter(text)
	return results + fmt.Sprint(impl.Console(text), after, ok)
}

func TestConsoleDependsOnArgumentsAlone(t *testing.T) {
	desks := []impl.Desk{impl.NewDesk(), longDesk(t)}
	for _, d := range desks {
		want := consoleResults(d, rightLines())
		for _, processors := range []int{1, 2, 8} {
			before := runtime.GOMAXPROCS(processors)
			var callers sync.WaitGroup
			for range 20 {
				callers.Go(func() {
					if got := consoleResults(d, rightLines()); got != want {
						t.Errorf("results on %v: got %s, want %s", d, got, want)
					}
				})
			}
			callers.Wait()
			runtime.GOMAXPROCS(before)
		}
	}
}
