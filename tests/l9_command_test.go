package tests

import (
	"fmt"
	"maps"
	"slices"
	"strconv"
	"strings"
	"testing"

	"loop.example/matchpolys/impl"
)

func TestMaxScript(t *testing.T) {
	if impl.MaxScript != maxScript {
		t.Errorf("MaxScript is %d, want %d", impl.MaxScript, maxScript)
	}
}

// TestCommandWords has graphs with what each word prints of them, in the order of aloneWords.
func TestCommandWords(t *testing.T) {
	cases := []struct {
		what, lines string
		made, edges int
		want        []string
	}{
		{"the graph at first", "", 0, 0, []string{"-", "0 0 0 0", "0 1 2 3", "0123", "1", "-", "0", "-", "0 0 0 0 1", "-", "0123", "- 4", "0123 - -", "0", "no", "0"}},
		{"one node", "nodes 1\n", 1, 0, []string{"-", "0", "0", "0", "1", "-", "0", "-", "0 1", "-", "0", "- 1", "0 - -", "0", "no", "0"}},
		{"the way of one node", "way 1\n", 1, 0, []string{"-", "0", "0", "0", "1", "-", "0", "-", "0 1", "-", "0", "- 1", "0 - -", "0", "no", "0"}},
		{"8 nodes without edges", "nodes 8\n", 1, 0, []string{"-", "0 0 0 0 0 0 0 0", "0 1 2 3 4 5 6 7", "01234567", "1", "-", "0", "-", "0 0 0 0 0 0 0 0 1", "-", "01234567", "- 8", "01234567 - -", "no", "no", "0"}},
		{"an edge", "full 2\n", 1, 1, []string{"01", "1 1", "01", "0", "1 1", "01", "1", "01", "-1 0 1", "0", "0", "- 0", "- - 01", "1", "01", "2"}},
		{"two edges linked crosswise", "link 3 1\nlink 0 2\n", 2, 2, []string{"02 13", "1 1 1 1", "02 13", "01", "1 2 1", "02 13", "1", "02 13", "1 0 -2 0 1", "01", "01", "- 0", "- - 0123", "-1", "02 13", "4"}},
		{"a ring of 3", "ring 3\n", 1, 3, []string{"01 02 12", "2 2 2", "012", "no", "1 3", "01", "0", "-", "0 -3 0 1", "01", "0", "- 1", "012 - -", "0", "no", "3"}},
		{"a way of 3", "way 3\n", 1, 2, []string{"01 12", "1 2 1", "012", "02", "1 2", "01", "0", "-", "0 -2 0 1", "1", "02", "- 1", "02 1 -", "0", "no", "2"}},
		{"a star", "link 0 1\nlink 0 2\nlink 3 0\n", 3, 3, []string{"01 02 03", "3 1 1 1", "0123", "0", "1 3", "01", "0", "-", "0 0 -3 0 1", "0", "123", "0 2", "123 0 -", "0", "no", "2"}},
		{"a way of 4", "way 4\n", 1, 3, []string{"01 12 23", "1 2 2 1", "0123", "02", "1 3 1", "01 23", "1", "01 23", "1 0 -3 0 1", "02", "02", "- 0", "- - 0123", "1", "01 23", "4"}},
		{"a ring of 6", "ring 6\n", 1, 6, []string{"01 05 12 23 34 45", "2 2 2 2 2 2", "012345", "024", "1 6 9 2", "01 23 45", "2", "01 05 12 23 34 45", "-2 0 9 0 -6 0 1", "024", "024", "- 0", "- - 012345", "2", "012345", "6"}},
		{"a ring of 3 and a node alone, made of the star", "nodes 4\nlink 0 3\nlink 1 3\nlink 2 3\nother\n", 5, 3, []string{"01 02 12", "2 2 2 0", "012 3", "no", "1 3", "01", "0", "-", "0 0 -3 0 1", "01", "03", "- 2", "0123 - -", "0", "no", "3"}},
		{"a ring of 8 without an edge", "ring 8\ncut 4 3\n", 2, 7, []string{"01 07 12 23 45 56 67", "2 2 2 1 1 2 2 2", "01234567", "0246", "1 7 15 10 1", "01 23 45 67", "1", "01 23 45 67", "1 0 -10 0 15 0 -7 0 1", "0246", "0246", "- 0", "- - 01234567", "no", "01 23 45 67", "8"}},
		{"the full graph of 8", "full 8\n", 1, 28, []string{"01 02 03 04 05 06 07 12 13 14 15 16 17 23 24 25 26 27 34 35 36 37 45 46 47 56 57 67", "7 7 7 7 7 7 7 7", "01234567", "no", "1 28 210 420 105", "01 23 45 67", "105", "01 02 03 04 05 06 07 12 13 14 15 16 17 23 24 25 26 27 34 35 36 37 45 46 47 56 57 67", "105 0 -420 0 210 0 -28 0 1", "0123456", "0", "- 0", "- - 01234567", "no", "01234567", "8"}},
	}
	for _, c := range cases {
		for i, word := range aloneWords {
			done := strings.Repeat("ok\n", c.made)
			wantOutput(t, c.lines+word+"\n", fmt.Sprintf("%s%s\nedges %d\n", done, c.want[i], c.edges))
		}
		all := c.lines + linesOf(aloneWords...)
		want := strings.Repeat("ok\n", c.made) + linesOf(c.want...) + fmt.Sprintf("edges %d\n", c.edges)
		wantOutput(t, all, want)
	}
}

// TestCommandGraphs asks all words of many graphs, each one made edge by edge.
func TestCommandGraphs(t *testing.T) {
	graphs := slices.Concat(sampleGraphs(), drawnGraphs(6, 10), drawnGraphs(8, 10))
	for _, c := range coverCases() {
		graphs = append(graphs, matrixOfList(c.g))
	}
	for _, g := range [][]int{ring8, twoRings, ladder, cube, stairs, prism, forcedByOne} {
		graphs = append(graphs, matrixOfList(g))
	}
	for _, m := range graphs {
		text := linesOf(append(m.linesFor(), aloneWords...)...)
		wantOutput(t, text, outputOf(text))
		text = linesOf(append(m.linesFor(), "other", "edges", "numbers", "other")...)
		wantOutput(t, text, outputOf(text))
	}
}

// TestCommandScripts takes drawn scripts, with lines that are refused among the others.
func TestCommandScripts(t *testing.T) {
	outputs := map[string]int{}
	draw := drawer(90)
	for range 4000 {
		text := drawnScript(maxScript, draw)
		want := outputOf(text)
		wantOutput(t, text, want)
		for line := range strings.Lines(want) {
			outputs[line]++
		}
	}
	for _, line := range []string{"ok\n", "no\n", "what\n", "-\n"} {
		if outputs[line] < 1000 {
			t.Errorf("just %d lines of the drawn scripts were %q", outputs[line], line)
		}
	}
}

// wantLine checks the output of a line behind a ring of 5, and that it leaves the ring as it was.
func wantLine(t *testing.T, line, want string) {
	t.Helper()
	wantOutput(t, linesOf("ring 5", line, "edges"), linesOf("ok", want, "01 04 12 23 34", "edges 5"))
}

// spoiledWords returns what is near to a word, but no word.
func spoiledWords(word string) []string {
	upper := strings.ToUpper(word)
	spoiled := []string{
		upper, upper[:1] + word[1:], word[:len(word)-1] + upper[len(word)-1:], word[1:], word[:len(word)-1], word + word, word + "s", "s" + word,
		"\t" + word, word + "\t", word + "\r", word + "\v", "\x00" + word, word + "\x00", word + "\xff", "\xef\xbb\xbf" + word, word + "\u00a0", word + "\u3000", word + ",", word + "-", word + "1", "." + word, word[:2] + "\r" + word[2:],
	}
	known := append([]string{"other"}, aloneWords...)
	known = slices.AppendSeq(known, maps.Keys(restWords()))
	return slices.DeleteFunc(spoiled, func(near string) bool { return slices.Contains(known, near) })
}

// TestCommandWithoutRest takes each word that has no rest with one, and what is near to it.
func TestCommandWithoutRest(t *testing.T) {
	for _, word := range append([]string{"other"}, aloneWords...) {
		for _, rest := range []string{"", " ", "  ", "0", "1", "1 2", "x", word, "edges", "-", "\t", "\r", "\x00"} {
			wantLine(t, word+" "+rest, refusedLine)
		}
		for _, line := range spoiledWords(word) {
			wantLine(t, line, refusedLine)
			wantLine(t, line+" ", refusedLine)
			wantLine(t, line+" 1", refusedLine)
		}
		wantLine(t, " "+word, refusedLine)
		wantLine(t, "  "+word, refusedLine)
		if word != "other" {
			ring := script{madeOf("ring", 5)}
			wantLine(t, word, ring.told(word))
		}
	}
}

// TestCommandWithRest takes each word that has a rest without one, with an empty one, and what is near to it.
func TestCommandWithRest(t *testing.T) {
	for word, count := range restWords() {
		wantLine(t, word, refusedLine)
		wantLine(t, word+" ", failedLine)
		for _, line := range spoiledWords(word) {
			for _, rest := range []string{"", " ", " 1", " 4", " 1 2", " 0 2"} {
				wantLine(t, line+rest, refusedLine)
			}
		}
		for _, ahead := range []string{" ", "  ", "\t"} {
			wantLine(t, ahead+word, refusedLine)
			wantLine(t, ahead+word+" 3", refusedLine)
			wantLine(t, ahead+word+" 0 2", refusedLine)
		}
		for n := range 12 {
			if n == count || count == anyNumber && n >= 1 && n <= 6 {
				continue
			}
			wantLine(t, word+" "+strings.Join(slices.Repeat([]string{"3"}, n), " "), failedLine)
		}
	}
}

// TestCommandOtherLines has lines without any of the words.
func TestCommandOtherLines(t *testing.T) {
	for _, line := range []string{"", " ", "  ", "   1", " 1", "1", "1 2", "0", "-", "zzz", "zzz ", "zzz 1", "what", "no", "ok", "too long", "edges 5", "exit", "help", "GRAPH", "\t", "\r", "\x00", "\xff", "\xc3\x28", "é", "ring4", "ring\t4", "ring=4", "ring-4", "ring\u00a04", "\x00ring 4", "rookie 1", "nodes4", "graph 4", "beside 4", "matching", "edges;other", "sides,free", "other\\n"} {
		wantLine(t, line, refusedLine)
	}
}

// badDigits returns what is no number of a rest.
func badDigits() []string {
	return []string{
		" ", "  ", "\t", "x", "a", "A", "o", "O", "l", "-", "+", ".", "e", "_", "4x", "x4", "4 x", "-1", "+1", "-0", "+4", "--4", "4-", "4+", "4.", ".4", "4.0", "4,", "1e0", "4e0", "0x4", "0b1", "0o4", "4_", "_4", "1_0", "#4", "'4'", "\"4\"", "(4)", "[4]",
		"0004", "0001", "0000", "1000", "0003", "9999", "00000000004", "4294967300", "18446744073709551620", "99999999999999999999999999",
		"\t4", "4\t", "4\r", "\r4", "\v4", "4\v", "4\f", "\x004", "4\x00", "\xff4", "4\xff", "\u00a04", "4\u00a0", "٤", "４", "四", "Ⅳ", "²", "4²", "é", ":", "/", "0:", "0/", ";4", "\xb4", "\xb2",
	}
}

// TestCommandBadNumbers puts what is no number in the place of each number of a rest, and spaces where none may be.
func TestCommandBadNumbers(t *testing.T) {
	for word, count := range restWords() {
		for _, bad := range badDigits() {
			rests := []string{bad}
			if count != 1 {
				rests = append(rests, "0 "+bad, bad+" 2", bad+" "+bad)
			}
			if count == anyNumber {
				rests = append(rests, "1 2 "+bad, bad+" 2 3", "1 "+bad+" 3", "1 2 3 4 5 "+bad)
			}
			for _, rest := range rests {
				wantLine(t, word+" "+rest, failedLine)
			}
		}
		rests := []string{" 4", "4 ", "  4", "4  ", " 4 ", " 0 2", "0  2", "0 2 ", "0   2", " 0  2 ", "0\t2", "0,2", "0, 2", "0 ,2", "0 - 2", "0 and 2", "0 2\r", "0 2\t", "0\x002", "0\u00a02"}
		for _, rest := range rests {
			wantLine(t, word+" "+rest, failedLine)
		}
	}
}

// TestCommandNumbers takes all numbers of up to three digits, with and without leading zeros.
func TestCommandNumbers(t *testing.T) {
	for word, count := range restWords() {
		if count == 2 {
			continue
		}
		for number := range 1000 {
			for _, form := range []string{"%d", "%02d", "%03d"} {
				text := linesOf(word+" "+fmt.Sprintf(form, number), "edges", "degrees")
				wantOutput(t, text, outputOf(text))
			}
			text := linesOf("way 3", fmt.Sprintf("%s %04d", word, number), "edges")
			wantOutput(t, text, linesOf("ok", failedLine, "01 12", "edges 2"))
		}
	}
}

// TestCommandPairs links and cuts all pairs of numbers, of nodes and such that are none.
func TestCommandPairs(t *testing.T) {
	for n := 1; n <= 8; n++ {
		for _, word := range []string{"nodes", "way", "full"} {
			for a := range 11 {
				for _, b := range append([]int{n, n + 1, 16, 31, 32, 63, 64, 100, 255, 256, 257, 512, 999}, nodesOf(255)...) {
					for _, form := range []string{"%d %d", "%03d %02d"} {
						text := linesOf(fmt.Sprint(word, " ", n), fmt.Sprintf("link "+form, a, b), "edges", fmt.Sprintf("cut "+form, b, a), "edges")
						wantOutput(t, text, outputOf(text))
					}
				}
			}
		}
	}
}

// TestCommandChanges links and cuts what is linked or cut already, and makes graphs one behind another.
func TestCommandChanges(t *testing.T) {
	cases := []struct{ text, want string }{
		{"link 0 1\nlink 0 1\nlink 1 0\nedges\n", "ok\nok\nok\n01\nedges 1\n"},
		{"link 0 3\ncut 3 0\nedges\ncut 0 3\nlink 3 0\n", "ok\nok\n-\nno\nok\nedges 1\n"},
		{"full 4\ncut 0 1\ncut 2 3\nsides\nring 3\nlink 2 3\nnodes 3\nlink 1 2\n", "ok\nok\nok\n01\nok\nno\nok\nok\nedges 1\n"},
		{"way 8\nlink 7 0\nsides\ncut 0 1\ncut 0 1\nparts\n", "ok\nok\n0246\nok\nno\n01234567\nedges 7\n"},
		{"full 8\nnodes 1\nother\nedges\nlink 0 0\nlink 0 1\ncut 0 0\n", "ok\nok\nok\n-\nno\nno\nno\nedges 0\n"},
		{"other\nedges\nother\nedges\n", "ok\n01 02 03 12 13 23\nok\n-\nedges 0\n"},
		{"way 3\nrook 1 2\nrook 64\nrook\nedges\n", "ok\n1 2 1\nno\nwhat\n01 12\nedges 2\n"},
		{"way 7\npfaffian\nway 6\npfaffian\nway 5\npfaffian\n", "ok\nno\nok\n1\nok\n0\nedges 4\n"},
	}
	for _, c := range cases {
		wantOutput(t, c.text, c.want)
	}
}

func TestCommandRook(t *testing.T) {
	cases := []struct{ rest, want string }{
		{"", failedLine},
		{"0", "1"},
		{"00", "1"},
		{"0 0 0", "1"},
		{"0 0 0 0 0 0", "1"},
		{"0 0 0 0 0 0 0", failedLine},
		{"1", "1 1"},
		{"32", "1 1"},
		{"63", "1 6"},
		{"063", "1 6"},
		{"64", failedLine},
		{"999", failedLine},
		{"3 3", "1 4 2"},
		{"003 03", "1 4 2"},
		{"3 0 3", "1 4 2"},
		{"0 64", failedLine},
		{"64 0", failedLine},
		{"1 2 4 8 16 32", "1 6 15 20 15 6 1"},
		{"63 63 63 63 63 63", "1 36 450 2400 5400 4320 720"},
		{"63 63 63 63 63 64", failedLine},
		{"63 63 63 63 63 63 0", failedLine},
	}
	for _, c := range cases {
		wantLine(t, "rook "+c.rest, c.want)
	}
	wantLine(t, "rook "+strings.Repeat("1 ", 280)+"1", failedLine)
}

// TestCommandLength has scripts of MaxScript bytes, and of one byte more.
func TestCommandLength(t *testing.T) {
	const tooLong = "too long\n"
	half := maxScript / 2
	cases := []struct{ what, text, want string }{
		{"lines", strings.Repeat("edges\n", 100), strings.Repeat("-\n", 100) + "edges 0\n"},
		{"lines and a newline", strings.Repeat("edges\n", 100) + "\n", tooLong},
		{"lines and a letter", strings.Repeat("edges\n", 100) + "x", tooLong},
		{"newlines", strings.Repeat("\n", maxScript), strings.Repeat("what\n", maxScript) + "edges 0\n"},
		{"one newline too many", strings.Repeat("\n", maxScript+1), tooLong},
		{"no newline", strings.Repeat("x", maxScript), "edges 0\n"},
		{"no newline, one letter too many", strings.Repeat("x", maxScript+1), tooLong},
		{"a long line", strings.Repeat("x", maxScript-1) + "\n", "what\nedges 0\n"},
		{"a line too long", strings.Repeat("x", maxScript) + "\n", tooLong},
		{"zeros", "full 3\n" + strings.Repeat("\x00", maxScript-7), "ok\nedges 3\n"},
		{"one zero too many", "full 3\n" + strings.Repeat("\x00", maxScript-6), tooLong},
		{"letters of two bytes", strings.Repeat("é", half), "edges 0\n"},
		{"letters of two bytes, one too many", strings.Repeat("é", half+1), tooLong},
		{"as many letters of two bytes", strings.Repeat("é", maxScript), tooLong},
		{"two letters of two bytes in a line", strings.Repeat("éé\n", maxScript/5), strings.Repeat("what\n", maxScript/5) + "edges 0\n"},
		{"graphs", strings.Repeat("full 8\nnodes 4\n", maxScript/15), strings.Repeat("ok\nok\n", maxScript/15) + "edges 0\n"},
		{"graphs and one more", strings.Repeat("full 8\nnodes 4\n", maxScript/15) + "full 8\n", tooLong},
		{"very many lines", strings.Repeat("full 8\n", 100000), tooLong},
	}
	for _, c := range cases {
		if got := impl.Execute(c.text); got != c.want {
			t.Errorf("Execute of %s returned %q, want %q", c.what, got, c.want)
		}
	}
}

// unfinished has what may stand behind the last newline.
var unfinished = []string{"", "x", " ", "edges", "edges ", "full 8", "ring 3", "nodes 1", "link 0 1", "link 0 ", "cut 0 1", "other", "other\r", "rook 3 3", "zzz", "ring x", "\x00", "\xff", "é"}

func TestPromise91(t *testing.T) {
	wantOutput(t, "", "edges 0\n")
	for _, last := range unfinished {
		wantOutput(t, last, "edges 0\n")
	}
	for _, text := range sampleScripts(maxScript) {
		want := outputOf(text)
		wantOutput(t, text, want)
		if want == "" {
			t.Fatalf("the tests want no output of %q", text)
		}
		for _, last := range append(unfinished, strings.Repeat("y", maxScript-len(text))) {
			if strings.Contains(last, "\n") || len(text)+len(last) > maxScript {
				continue
			}
			wantOutput(t, text+last, want)
		}
		wantOutput(t, text+strings.Repeat("y", maxScript-len(text)+1), "too long\n")
	}
}

// ended returns the output of a script without the last line, and this.
func ended(t *testing.T, text string) (string, string) {
	t.Helper()
	output := impl.Execute(text)
	at := strings.LastIndex(strings.TrimSuffix(output, "\n"), "\n") + 1
	if !strings.HasPrefix(output[at:], "edges ") {
		t.Errorf("Execute(%q) returned %q", text, output)
	}
	return output[:at], output[at:]
}

func TestPromise92(t *testing.T) {
	const room = 11
	for _, text := range sampleScripts(maxScript - room) {
		ahead, last := ended(t, text)
		wantOutput(t, text+"zzz\nring x\n", ahead+"what\nno\n"+last)
		wantOutput(t, text, outputOf(text))
	}
}

func TestPromise93(t *testing.T) {
	const room = 12
	empty := 0
	for _, text := range sampleScripts(maxScript - room) {
		ahead, last := ended(t, text)
		output := impl.Execute(text + "edges\nedges\n")
		told, fits := strings.CutPrefix(output, ahead)
		told, ends := strings.CutSuffix(told, last)
		lines := strings.Split(told, "\n")
		if !fits || !ends || len(lines) != 3 || lines[0] != lines[1] {
			t.Errorf("Execute of %q and two lines \"edges\" returned %q", text, output)
			continue
		}
		if lines[0] == "-" {
			empty++
			continue
		}
		if want := fmt.Sprintf("edges %d\n", len(strings.Fields(lines[0]))); last != want {
			t.Errorf("Execute(%q) ended with %q, want %q", text, last, want)
		}
	}
	if all := len(sampleScripts(maxScript - room)); empty < 20 || empty > all-20 {
		t.Errorf("%d of %d scripts left no edges", empty, all)
	}
}

func TestPromise94(t *testing.T) {
	for n := 1; n <= 8; n++ {
		way := must[[]int](t, "PolyWay")(impl.PolyWay(n))
		for _, form := range []string{"%d", "%02d", "%03d"} {
			text := linesOf("way "+fmt.Sprintf(form, n), "poly")
			wantOutput(t, text, linesOf("ok", numbersText(way), fmt.Sprint("edges ", n-1)))
		}
	}
	// PolyWay succeeds for these numbers, too, but there is no such way.
	for _, n := range []int{0, 9, 10, 11, 12} {
		wantOutput(t, linesOf("way "+strconv.Itoa(n), "poly"), "no\n0 0 0 0 1\nedges 0\n")
	}
}

// TestPromise95 takes all boards of one row, many of two, and drawn ones of up to six, with rows of zero and such that are none among them.
func TestPromise95(t *testing.T) {
	boards := [][]int{}
	for a := range 70 {
		boards = append(boards, []int{a})
		for b := range 70 {
			boards = append(boards, []int{a, b})
		}
	}
	draw := drawer(95)
	for i := range 600 {
		rows := make([]int, i%8)
		for row := range rows {
			rows[row] = draw([]int{2, 8, 64, 66}[i/8%4])
		}
		boards = append(boards, rows)
	}
	var yes, no int
	for _, rows := range boards {
		want, fields := failedLine, []string{}
		for _, set := range rows {
			fields = append(fields, strconv.Itoa(set))
		}
		numbers, ok := impl.PolyRook(rows)
		if ok {
			yes++
			want = numbersText(numbers)
		} else {
			no++
		}
		wantLine(t, "rook "+strings.Join(fields, " "), want)
	}
	if yes < 1000 || no < 200 {
		t.Errorf("PolyRook succeeded %d times, and failed %d times", yes, no)
	}
}
