package tests

import (
	"slices"
	"strings"
	"testing"

	"loop.example/g03401/impl"
)

// dialog checks that the console answers each line as it should, whatever other lines are around it.
func dialog(t *testing.T, lines [][2]string) {
	t.Helper()
	text, want, count := "", "", 0
	flush := func() {
		t.Helper()
		if got := impl.RunConsole(text); got != want {
			t.Errorf("RunConsole(%q) = %q, want %q", text, got, want)
		}
		if got := impl.RunConsole(strings.TrimSuffix(text, "\n")); got != want {
			t.Errorf("without the last newline, RunConsole(%q) = %q", text, got)
		}
		text, want, count = "", "", 0
	}
	for _, line := range lines {
		if got := impl.RunConsole(line[0]); got != line[1]+"\n" {
			t.Errorf("RunConsole(%q) = %q, want %q", line[0], got, line[1])
		}
		if len(text)+len(line[0]) > 1990 || count == 20 {
			flush()
		}
		text += line[0] + "\n"
		want += line[1] + "\n"
		count++
	}
	flush()
}

// orElse is a line that is not empty, or a word.
func orElse(line string, word string) string {
	if line == "" {
		return word
	}
	return line
}

func TestConstantsOfConsole(t *testing.T) {
	if impl.MaxConsole != 2000 || impl.MaxLines != 20 {
		t.Error(impl.MaxConsole, impl.MaxLines)
	}
}

func TestConsoleAboutPaths(t *testing.T) {
	var lines [][2]string
	for _, w := range append(slices.Concat(pathsBySize(5)...), pathsBySize(8)[8][700]) {
		lines = append(lines, [2]string{"path " + w, impl.PathLine(w)}, [2]string{"kinds " + w, impl.KindsLine(w)})
	}
	for _, w := range noPaths() {
		if len(w) < 100 && !strings.Contains(w, "\n") {
			lines = append(lines, [2]string{"path " + w, "what"}, [2]string{"kinds " + w, "what"})
		}
	}
	dialog(t, lines)
}

func TestConsoleAboutTrees(t *testing.T) {
	var lines [][2]string
	for n, trees := range treesBySize(6) {
		for i, a := range trees {
			b := trees[(3*i+2)%len(trees)]
			order, _ := impl.ClaimOfOrder(a, b)
			distance, _ := impl.ClaimOfDistance(a, b)
			if n == 6 && distance.Kind != 0 {
				t.Errorf("the distance of %q and %q is claimed", a, b)
			}
			lines = append(lines,
				[2]string{"tree " + a, impl.TreeLine(a)},
				[2]string{"pair " + a + " " + b, impl.PairLine(a, b)},
				[2]string{"order " + a + " " + b, orElse(impl.FormatClaim(order), "no")},
				[2]string{"distance " + a + " " + b, orElse(impl.FormatClaim(distance), "no")},
				[2]string{"pair " + a + " (" + b + ".)", "no"},
				[2]string{"order (." + a + ") " + b, "no"},
				[2]string{"distance " + a + " (" + b + ".)", "no"},
			)
		}
	}
	for _, s := range noTrees() {
		if len(s) > 100 || strings.Contains(s, "\n") {
			continue
		}
		lines = append(lines, [2]string{"tree " + s, "what"})
		for _, word := range []string{"pair ", "order ", "distance "} {
			lines = append(lines, [2]string{word + s + " .", "what"}, [2]string{word + ". " + s, "what"}, [2]string{word + s + " " + s, "what"})
		}
	}
	dialog(t, lines)
}

func TestConsoleAboutNumbers(t *testing.T) {
	lines := [][2]string{
		{"frieze 1,1", "no"}, {"frieze 0", "no"}, {"frieze 1,2,1,2", "frieze 1,1,1,1 1,2,1,2 1,1,1,1 sum 14"}, {"frieze 1,1,1", "frieze 1,1,1 1,1,1 sum 6"}, {"frieze -1,2,999999999", "no"},
		{"sort 0", "sorted 0 by ud"}, {"sort 1", "no"}, {"sort -1,0", "no"}, {"sort 2,0,1", "sorted 2,0,1 by uududd"}, {"sort 1,2,0", "unsorted 1,2,0 by 0,1,2"}, {"sort 0,0", "no"}, {"sort 0,1,2,3,4,5,6,7", "sorted 0,1,2,3,4,5,6,7 by udududududududud"}, {"sort 0,1,2,3,4,5,6,7,8", "no"},
		{"count -1", "no"}, {"count 6", "no"}, {"count 999999999", "no"}, {"count -999999999", "no"},
		{"sieve matchings -1", "no"}, {"sieve partitions 0", "no"}, {"sieve triangulations 6", "no"}, {"sieve trees 2", "no"}, {"sieve 2 2", "no"},
	}
	for _, p := range slices.Concat(permutations(3), permutations(4)) {
		c, _ := impl.ClaimOfSorting(p)
		lines = append(lines, [2]string{"sort " + commas(p), impl.FormatClaim(c)}, [2]string{"frieze " + commas(p), "no"})
	}
	for _, d := range triangulations(6) {
		q := quiddityByHand(6, d)
		lines = append(lines, [2]string{"frieze " + commas(q), impl.FriezeLine(q)}, [2]string{"sort " + commas(q), "no"})
	}
	for n := range 6 {
		number := string(rune('0' + n))
		lines = append(lines, [2]string{"count " + number, impl.CountLine(n)})
		for _, f := range kindsOfTurns() {
			lines = append(lines, [2]string{"sieve " + f.name + " " + number, orElse(impl.SieveLine(f.name, n), "no")})
		}
	}
	for _, no := range []string{"", "x", "+1", "-", "-0", "01", "00", "1.0", "1e1", "1_0", "0x1", "1000000000", "-1000000000", "99999999999999999999", "１", "1\x00", "\xff", "none", "1-", "\t1"} {
		lines = append(lines, [2]string{"count " + no, "what"}, [2]string{"frieze " + no, "what"}, [2]string{"sort " + no, "what"}, [2]string{"sieve matchings " + no, "what"}, [2]string{"sieve x " + no, "what"})
		for _, list := range []string{no + ",1", "1," + no, "1," + no + ",1"} {
			lines = append(lines, [2]string{"frieze " + list, "what"}, [2]string{"sort " + list, "what"}, [2]string{"count " + list, "what"})
		}
	}
	dialog(t, lines)
}

func TestConsoleConverts(t *testing.T) {
	var lines [][2]string
	for _, o := range slices.Concat(placedBySize(3)...) {
		for _, from := range kindNames() {
			for _, to := range kindNames() {
				line := "convert " + from + " " + to + " " + strings.ReplaceAll(o.textByHand(from), " ", "_")
				lines = append(lines, [2]string{line, orElse(o.textByHand(to), "no")})
			}
		}
	}
	for _, to := range kindNames() {
		lines = append(lines,
			[2]string{"convert path " + to + " du", "no"}, [2]string{"convert path " + to + " u_d", "no"}, [2]string{"convert matching " + to + " 0-1__2-3", "no"}, [2]string{"convert matching " + to + " _", "no"}, [2]string{"convert diagonals " + to + " 5:_13_03", "no"}, [2]string{"convert rank " + to + " 3:5", "no"},
			[2]string{"convert matching " + to + " 0-1 2-3", "what"}, [2]string{"convert path " + to, "what"}, [2]string{"convert " + to, "what"}, [2]string{"convert path " + to + " ud ", "what"}, [2]string{"convert  path " + to + " ud", "what"}, [2]string{"convert path  " + to + " ud", "what"},
		)
		for _, no := range noKinds() {
			if no != "" && len(no) < 100 && !strings.Contains(no, " ") {
				lines = append(lines, [2]string{"convert " + no + " " + to + " ud", "what"}, [2]string{"convert " + to + " " + no + " ud", "what"}, [2]string{"convert " + no + " " + no + " ud", "what"})
			}
		}
	}
	dialog(t, lines)
}

func TestConsoleSaysWhat(t *testing.T) {
	words := []string{"path", "kinds", "tree", "count", "frieze", "pair", "sieve", "sort", "order", "distance", "convert"}
	valid := map[string]string{"path": "ud", "kinds": "ud", "tree": ".", "count": "1", "frieze": "1,1,1", "pair": ". .", "sieve": "matchings 2", "sort": "0", "order": ". .", "distance": ". .", "convert": "path rank ud"}
	var lines [][2]string
	for _, word := range words {
		line := word + " " + valid[word]
		if got := impl.RunConsole(line); got == "" || got == "what\n" || got == "no\n" {
			t.Errorf("RunConsole(%q) = %q", line, got)
		}
		short := line[:strings.LastIndex(line, " ")]
		for _, wrong := range []string{
			word, short, line + " " + line, line + " x", line + "  ", " " + line, "  " + line, word + "  " + valid[word], "\t" + line, strings.Replace(line, " ", "\t", 1), strings.Replace(line, " ", ",", 1), strings.ToUpper(word) + " " + valid[word], word + "s " + valid[word], word[1:] + " " + valid[word], "x " + line, "no", "what",
			strings.ReplaceAll(line, " ", "  "), strings.ReplaceAll(line, " ", "   "), line + " ",
		} {
			lines = append(lines, [2]string{wrong, "what"})
		}
		for _, behind := range []string{"\t", "\r", "\x00", "\xff", ","} {
			// Any text can be converted, though there may be no such object.
			answer := map[bool]string{true: "no", false: "what"}[word == "convert"]
			lines = append(lines, [2]string{line + behind, answer})
		}
	}
	for _, s := range []string{" ", "  ", "   ", "\t", "\r", "x", "\x00", "\xff", "go . .", "ud", ".", "1", "help", "quit", "ｐath ud", "path_ud", "path,ud", "order . .\v"} {
		lines = append(lines, [2]string{s, "what"})
	}
	dialog(t, lines)
}

func TestConsoleLinesWithTwoSpaces(t *testing.T) {
	dialog(t, [][2]string{
		{"path  ud", "what"}, {"path ud ", "what"}, {" path ud", "what"}, {"path  ", "what"}, {"kinds  ud", "what"}, {"tree  .", "what"}, {"tree .  ", "what"}, {"count  1", "what"}, {"pair .  .", "what"}, {"pair  . .", "what"}, {"sort  0,1", "what"}, {"sort 0, 1", "what"}, {"sieve matchings  2", "what"}, {"convert path  rank ud", "what"},
		// One space behind the word leaves the empty path as its argument.
		{"path ", "path 0 rank 0 peaks 0 returns 0 rise 0 area 0 depth 0 leaves 1 blocks 0 major 0 fall 0"},
		{"kinds ", "kinds path [] brackets [] plane [-1] binary [.] diagonals [2: none] partition [] matching [none] permutation [] rank [0:0]"},
		{"tree ", "what"}, {"count ", "what"}, {"sort ", "what"}, {"frieze ", "what"}, {"convert path plane ", "-1"}, {"convert path partition ", "no"}, {"convert plane path ", "no"},
	})
}

func TestConsoleLimits(t *testing.T) {
	for _, c := range []struct {
		text string
		want string
	}{
		{"", ""}, {"\n", ""}, {"\n\n", ""}, {"\npath x", "what\n"}, {"x\n\n", "what\n"}, {"x\n\n\ny\n", "what\nwhat\n"}, {strings.Repeat("\n", 20), ""}, {strings.Repeat("\n", 21), ""}, {strings.Repeat("\n", 19) + "x", "what\n"}, {strings.Repeat("\n", 19) + "x\n", "what\n"}, {strings.Repeat("\n", 20) + "x", ""}, {"x" + strings.Repeat("\n", 20), "what\n"}, {"x" + strings.Repeat("\n", 21), ""},
		{strings.Repeat("x\n", 20), strings.Repeat("what\n", 20)}, {strings.Repeat("x\n", 19) + "x", strings.Repeat("what\n", 20)}, {strings.Repeat("x\n", 20) + "x", ""}, {strings.Repeat("x\n", 21), ""}, {strings.Repeat("x\n", 20) + "\n", ""}, {strings.Repeat("x\n\n", 10), strings.Repeat("what\n", 10)}, {strings.Repeat("x\n\n", 10) + "x", ""},
		{strings.Repeat("x", 2000), "what\n"}, {strings.Repeat("x", 1999) + "\n", "what\n"}, {strings.Repeat("x", 2001), ""}, {strings.Repeat("x", 2000) + "\n", ""}, {"path ud\n" + strings.Repeat("x", 1992), impl.PathLine("ud") + "\nwhat\n"}, {"path ud\n" + strings.Repeat("x", 1993), ""}, {strings.Repeat("path ud\n", 20), strings.Repeat(impl.PathLine("ud")+"\n", 20)},
		{strings.Repeat(" ", 2000), "what\n"}, {strings.Repeat("x\n", 1000), ""}, {strings.Repeat("path ud\n", 100000), ""}, {strings.Repeat("\n", 1<<20), ""}, {"sort " + strings.Repeat("0,", 997) + "0", "no\n"}, {"sort " + strings.Repeat("0,", 997) + "0\n", ""}, {"x\r\ny\r\n", "what\nwhat\n"},
	} {
		if got := impl.RunConsole(c.text); got != c.want {
			t.Errorf("RunConsole(%.60q) with %d bytes = %.200q, want %.200q", c.text, len(c.text), got, c.want)
		}
	}
}

func TestConsoleDoesNotDependOnLaterLines(t *testing.T) {
	pool := []string{
		"", "path uudd", "kinds ud", "tree (..)", "pair (..) (..)", "order ((..).) (.(..))", "order (.(..)) ((..).)", "distance (.(..)) ((..).)", "count 3", "count 9", "frieze 1,2,1,2", "frieze 1", "sort 2,0,1", "sort 1,2,0", "sort 5", "sieve partitions 3", "sieve x 3", "convert path rank udud", "convert path rank du", "x", " ", "path du",
	}
	for seed := range 60 {
		var lines []string
		for i := range 20 {
			lines = append(lines, pool[(seed*(seed+7)+i*(i+seed)+3*i)%len(pool)])
		}
		whole := impl.RunConsole(strings.Join(lines, "\n"))
		output := ""
		for n := range lines {
			before := output
			text := strings.Join(lines[:n+1], "\n")
			output = impl.RunConsole(text)
			added, ok := strings.CutPrefix(output, before)
			if !ok || !strings.HasPrefix(whole, output) || added != impl.RunConsole(lines[n]) {
				t.Fatalf("line %d of %q outputs %q", n, text, added)
			}
			if count := strings.Count(added, "\n"); lines[n] == "" && count != 0 || lines[n] != "" && (count != 1 || !strings.HasSuffix(added, "\n") || added == "\n") {
				t.Fatalf("line %q outputs %q", lines[n], added)
			}
		}
		if output != whole {
			t.Fatalf("%q and %q", output, whole)
		}
	}
}
