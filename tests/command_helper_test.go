package tests

import (
	"fmt"
	"maps"
	"regexp"
	"slices"
	"strconv"
	"strings"
	"testing"

	"loop.example/matchpolys/impl"
)

// maxScript is the greatest number of bytes of a script, as the document tells it.
const maxScript = 600

// anyNumber stands for a rest of as many numbers as one likes.
const anyNumber = -1

// What a line may answer that is not carried out.
const (
	refusedLine = "what"
	failedLine  = "no"
)

// aloneWords are the words without a rest that change nothing.
var aloneWords = []string{"edges", "degrees", "parts", "sides", "numbers", "first", "perfect", "allowed", "poly", "cover", "free", "tutte", "three", "pfaffian", "blocks", "half"}

// restWords are the words with a rest, with how many numbers it has.
func restWords() map[string]int {
	return map[string]int{"nodes": 1, "way": 1, "ring": 1, "full": 1, "link": 2, "cut": 2, "rook": anyNumber}
}

// joined tells what is in a list with spaces between, and an empty one as the document says.
func joined[E any](list []E, text func(E) string) string {
	words := []string{}
	for _, e := range list {
		words = append(words, text(e))
	}
	if len(words) == 0 {
		words = append(words, "-")
	}
	return strings.Join(words, " ")
}

func numbersText(list []int) string {
	return joined(list, strconv.Itoa)
}

// nodesText tells a set that is a list of nodes.
func nodesText(nodes []int) string {
	if len(nodes) == 0 {
		return "-"
	}
	return strings.ReplaceAll(numbersText(nodes), " ", "")
}

func edgesText(edges [][]int) string {
	return joined(edges, nodesText)
}

// nodesOf returns the nodes of a set, of at most 8.
func nodesOf(set int) []int {
	nodes := []int{}
	for v := range 8 {
		if inSets(set, v) {
			nodes = append(nodes, v)
		}
	}
	return nodes
}

// script is what a script has come to, as the tests keep it.
type script struct {
	m matrix
}

// numbersForm is the form of a rest with numbers.
var numbersForm = regexp.MustCompile(`^[0-9]{1,3}( [0-9]{1,3})*$`)

// restOf reads a rest of a number of numbers; it fails if it is not one.
func restOf(rest string, count int) ([]int, bool) {
	numbers := []int{}
	if rest != "" && !numbersForm.MatchString(rest) {
		return nil, false
	}
	for _, field := range strings.Fields(rest) {
		number, _ := strconv.Atoi(field)
		numbers = append(numbers, number)
	}
	return numbers, count == anyNumber || len(numbers) == count
}

// answer carries out a line and returns its output.
func (s *script) answer(line string) string {
	at := strings.IndexByte(line, ' ')
	if at < 0 {
		return s.told(line)
	}
	count, known := restWords()[line[:at]]
	if !known {
		return refusedLine
	}
	numbers, ok := restOf(line[at+1:], count)
	if !ok {
		return failedLine
	}
	if count == anyNumber {
		return rooksText(numbers)
	}
	made, ok := s.changed(line[:at], numbers)
	if !ok {
		return failedLine
	}
	s.m = made
	return "ok"
}

func rooksText(rows []int) string {
	if len(rows) < 1 || len(rows) > 6 || slices.Max(rows) >= 64 {
		return failedLine
	}
	return numbersText(rooksOf(rows))
}

// changed returns the graph that a word makes with its numbers; it fails if there is none.
func (s *script) changed(word string, numbers []int) (matrix, bool) {
	first, last := numbers[0], numbers[len(numbers)-1]
	switch word {
	case "nodes", "way", "ring", "full":
		least := 1
		if word == "ring" {
			least = 3
		}
		if first < least || first > 8 {
			return nil, false
		}
		return madeOf(word, first), true
	}
	if first == last || max(first, last) >= len(s.m) {
		return nil, false
	}
	made := matrixOf(len(s.m), s.m.pairs(true))
	if word == "cut" {
		made[first][last], made[last][first] = false, false
		return made, s.m[first][last]
	}
	made.link(first, last)
	return made, true
}

// madeOf returns the graph of n nodes that a word makes.
func madeOf(word string, n int) matrix {
	m := bareMatrix(n)
	for _, e := range m.pairs(false) {
		isStep := e[1] == e[0]+1
		closes := e[0] == 0 && e[1] == n-1
		if word == "full" || isStep && word != "nodes" || closes && word == "ring" {
			m.link(e[0], e[1])
		}
	}
	return m
}

// told returns the output of a line without a space.
func (s *script) told(word string) string {
	switch word {
	case "other":
		s.m = matrixOf(len(s.m), s.m.pairs(false))
		return "ok"
	case "edges":
		return edgesText(s.m.pairs(true))
	case "degrees":
		return numbersText(s.degrees())
	case "parts":
		return joined(s.m.parts(), nodesText)
	case "sides":
		left, ok := s.m.sides()
		if !ok {
			return failedLine
		}
		return nodesText(left)
	case "cover":
		return nodesText(s.m.leastCover())
	case "free":
		return nodesText(s.m.mostFree())
	case "tutte":
		set, loss := s.m.tutte()
		return nodesText(set) + " " + strconv.Itoa(loss)
	case "three":
		first, second, third := s.m.three()
		return joined([][]int{first, second, third}, nodesText)
	case "half":
		return strconv.Itoa(s.m.halfWeight())
	}
	return s.toldOfMatchings(word)
}

func (s *script) degrees() []int {
	degrees := make([]int, len(s.m))
	for _, e := range s.m.pairs(true) {
		degrees[e[0]]++
		degrees[e[1]]++
	}
	return degrees
}

// toldOfMatchings returns the output of a line without a space whose word asks for matchings.
func (s *script) toldOfMatchings(word string) string {
	if !slices.Contains(aloneWords, word) {
		return refusedLine
	}
	all := s.m.matchings()
	perfect := perfectOf(all, len(s.m))
	switch word {
	case "numbers":
		return numbersText(numbersOf(all))
	case "first":
		return edgesText(s.m.greatestOnes()[0])
	case "perfect":
		return strconv.Itoa(len(perfect))
	case "allowed":
		allowed := matrixOf(len(s.m), slices.Concat(perfect...))
		return edgesText(allowed.pairs(true))
	case "poly":
		return numbersText(polyOfMatchings(s.m))
	case "pfaffian":
		if len(s.m) > rowsMax {
			return failedLine
		}
		pfaffian, _ := overPairs(pointing{m: s.m}.table(), perfect)
		return strconv.Itoa(pfaffian)
	}
	// What is left is the word "blocks".
	if len(perfect) == 0 {
		return failedLine
	}
	blocks := forcedSample{m: s.m, perfect: perfect}.blocks()
	return joined(blocks, func(set int) string { return nodesText(nodesOf(set)) })
}

// outputOf returns what the document requires of a script.
func outputOf(text string) string {
	if len(text) > maxScript {
		return "too long\n"
	}
	s := script{bareMatrix(4)}
	output := []string{}
	lines := strings.SplitAfter(text, "\n")
	for _, line := range lines {
		if complete, ends := strings.CutSuffix(line, "\n"); ends {
			output = append(output, s.answer(complete)+"\n")
		}
	}
	return strings.Join(output, "") + fmt.Sprintf("edges %d\n", len(s.m.pairs(true)))
}

// linesOf makes a script of complete lines.
func linesOf(lines ...string) string {
	text := ""
	for _, line := range lines {
		text += line + "\n"
	}
	return text
}

// linesFor returns the lines that make a graph.
func (m matrix) linesFor() []string {
	lines := []string{fmt.Sprint("nodes ", len(m))}
	for _, e := range m.pairs(true) {
		lines = append(lines, fmt.Sprint("link ", e[1], " ", e[0]))
	}
	return lines
}

func wantOutput(t *testing.T, text, want string) {
	t.Helper()
	if got := impl.Execute(text); got != want {
		t.Errorf("Execute(%q) returned %q, want %q", text, got, want)
	}
}

// drawnLine returns a line: most are told by the document, with numbers of which many are nodes, and some are near such.
func drawnLine(draw func(below int) int) string {
	words := []string{"nodes", "way", "ring", "full", "cut", "cut", "link", "link", "link", "link", "rook", "other", "", "zzz"}
	words = append(words, aloneWords...)
	word := words[draw(len(words))]
	count, withRest := restWords()[word]
	if count == anyNumber {
		count = draw(8)
	}
	if draw(12) == 0 {
		count = draw(4)
	}
	line := word
	if withRest != (draw(12) == 0) {
		line += " "
	}
	numbers := []string{}
	for range count {
		number := strconv.Itoa(draw([]int{4, 6, 9, 9, 64, 1200}[draw(6)]))
		numbers = append(numbers, strings.Repeat("0", draw(12)/10)+number)
	}
	line += strings.Join(numbers, " ")
	if draw(15) == 0 {
		at := draw(len(line) + 1)
		line = line[:at] + string(" \t\r0A-+\xff"[draw(8)]) + line[at:]
	}
	return line
}

// drawnScript returns a script of complete lines with at most so many bytes.
func drawnScript(bytes int, draw func(below int) int) string {
	text := ""
	for {
		line := drawnLine(draw) + "\n"
		if len(text)+len(line) > bytes || draw(60) == 0 {
			return text
		}
		text += line
	}
}

// sampleScripts returns scripts of complete lines with at most so many bytes: the empty one, such of empty lines, of each word, of graphs told by hand, and drawn ones.
func sampleScripts(bytes int) []string {
	scripts := []string{"", "\n", "\n\n\n", " \n", "what\n", "no\n", "edges 4\n", "too long\n", strings.Repeat("\n", bytes)}
	for _, word := range slices.Sorted(maps.Keys(restWords())) {
		scripts = append(scripts, linesOf(word), linesOf(word+" "), linesOf(word+" 3"), linesOf(word+" 1 2"))
	}
	for _, word := range append(aloneWords, "other") {
		scripts = append(scripts, linesOf(word), linesOf("way 5", word), linesOf(word+" "))
	}
	for _, c := range coverCases() {
		scripts = append(scripts, linesOf(matrixOfList(c.g).linesFor()...))
	}
	draw := drawer(9)
	for range 120 {
		scripts = append(scripts, drawnScript(bytes, draw), drawnScript(bytes/6, draw))
	}
	return slices.DeleteFunc(scripts, func(text string) bool { return len(text) > bytes })
}
