package tests

import (
	"fmt"
	"slices"
	"strings"
	"sync"
	"testing"

	"loop.example/cribble/impl"
)

// wantDesk asks for what a script answers, and tells it.
func wantDesk(t *testing.T, script, want string) string {
	t.Helper()
	got := impl.DeskRun(script)
	if got != want || deskModel(script) != want {
		t.Fatalf("%.3000q\nanswers %.3000q,\nnot     %.3000q,\nby its model %.3000q", script, got, want, deskModel(script))
	}
	if impl.DeskRun(script) != got {
		t.Fatalf("%.3000q is answered in another way the second time", script)
	}
	return got
}

// lineCase is a line, and what it answers, its lines with "; " between.
type lineCase struct{ line, want string }

// answered is what a line answers.
func (c lineCase) answered() string { return strings.ReplaceAll(c.want, "; ", "\n") + "\n" }

// wantLines asks for what each line answers behind the others, and for that of the lines up to each.
func wantLines(t *testing.T, cases ...lineCase) {
	t.Helper()
	script, want := "", ""
	for _, c := range cases {
		script, want = script+c.line, want+c.answered()
		wantDesk(t, script, want)
		script += "\n"
		wantDesk(t, script, want)
	}
}

// wantBehind asks for what lines answer, each by itself, behind a script that answers something.
func wantBehind(t *testing.T, start string, cases ...lineCase) {
	t.Helper()
	ahead := wantDesk(t, start, deskModel(start))
	for _, c := range cases {
		wantDesk(t, start+"\n"+c.line, ahead+c.answered())
	}
}

func TestDeskAnswersTheExampleOfTheDocument(t *testing.T) {
	wantLines(t,
		lineCase{"join ann 40 120", "fine"},
		lineCase{"put ann cart {items:[{n:'pen',q:2},{n:'ink',q:0}],who:'ann'}", "fine"},
		lineCase{"ask ann cart pipe .items: pipe [] .n:", "'pen'; 'ink'; fine"},
		lineCase{"turn ann cart turn pipe .items: pipe [] .q: add . =1", "fine"},
		lineCase{"get ann cart", "{items:[{n:'pen',q:3},{n:'ink',q:1}],who:'ann'}"},
		lineCase{"used ann", "9"},
		lineCase{"get bob cart", "none"},
		lineCase{"eval [1,'a'] pipe [] try add . =1", "2; fine 10"},
		lineCase{"eval [1,'a'] pipe [] add . =1", "2; bad 8"},
		lineCase{"slim pipe . .a:", ".a:"},
		lineCase{"most row []", "1"},
		lineCase{"ways {a:[1,{b:2}]}", "$; $.a; $.a[0]; $.a[1]; $.a[1].b; end"})
}

func TestDeskOfLinesAndWords(t *testing.T) {
	for script, want := range map[string]string{
		// Lines without words.
		"": "", "\n": "", "\n\n\n": "", " ": "", "    ": "", " \n": "", "\n ": "", "  \n   \n\n  ": "", strings.Repeat("\n", 1000): "", strings.Repeat(" ", 1000): "", strings.Repeat(" \n", 1000): "",
		// A last line with and without a newline.
		"used a": "-1\n", "used a\n": "-1\n", "used a\n\n": "-1\n", "used a\n   ": "-1\n", "\nused a": "-1\n", "\n\n  \nused a\n  \n\n": "-1\n", "used a\nused b": "-1\n-1\n", "used a\nused b\n": "-1\n-1\n", "used a\n\nused b": "-1\n-1\n", "used\na": "what\nwhat\n", "used a\nused": "-1\nwhat\n", "x": "what\n", "x\n": "what\n",
		// Spaces ahead of words, behind them, and between them.
		" used a": "-1\n", "     used a": "-1\n", "used a ": "-1\n", "used a     ": "-1\n", "used  a": "-1\n", "   used     a   ": "-1\n", "   used     a   \n used a": "-1\n-1\n", "used a  \n  used a": "-1\n-1\n", "useda": "what\n", "u sed a": "what\n", "join a 9 9\n   put    a   t   [1,2]   \n  get  a   t ": "fine\nfine\n[1,2]\n", "put a t [1, 2]": "what\n", "eval    5     both   .     bad  ": "5\nbad 3\n",
		// Other blanks are in words.
		"\t": "what\n", "\tused a": "what\n", "used\ta": "what\n", "used \ta": "-1\n", "used a\t": "-1\n", "used a\tb": "-1\n", "used a\t ": "-1\n", "used a \t": "what\n", "\r": "what\n", "\r\n": "what\n", "used a\r\nused b\r\n": "-1\n-1\n", "used\r a": "what\n", "used\va": "what\n", "used\fa": "what\n", "\v\n\f": "what\nwhat\n", "used\u00a0a": "what\n", "\u00a0used a": "what\n", "used a\u00a0": "-1\n", "used\u2003a": "what\n", "used\u3000a": "what\n", "\u2028": "what\n", "used a\u2028used b": "what\n", "used a\u0085used": "-1\n", "\ufeffused a": "what\n", "used\x00a": "what\n", "\x00": "what\n", "used \x00": "-1\n",
		"join a 1 1\t": "what\n", "join a\t 1 1": "bad\n", "join a 1 1\r": "what\n", "join a 1 1\njoin b 1 1\r\nused b\nused a": "fine\nwhat\n-1\n0\n", "eval 5\t .": "what\n", "eval 5 .\t": "what\n", "eval 5 \t.": "what\n", "eval 5 pipe .\t.": "what\n", "eval 5 .\r\n": "what\n", "ways 5\r": "what\n", "ways [1,\t2]": "what\n",
		// Letters that are no ascii, and bytes that are no text.
		"é": "what\n", "used é": "-1\n", "usedé a": "what\n", "join é 1 1": "bad\n", "join 世 1 1\nused 世": "bad\n-1\n", "join ａｎｎ 1 1": "bad\n", "join a １ 1": "what\n", "join a 1 ٣": "what\n", "eval 'é' .": "what\n", "eval 5 é": "what\n", "eval é .": "what\n", "ways 'ａ'": "what\n", "slim .é:": "what\n", "ｕｓｅｄ a": "what\n", "join a 1 1\nput a é 1\nget a é\nused a": "fine\nbad\nnone\n0\n",
		"\xff": "what\n", "used \xff": "-1\n", "used \xff\xfe": "-1\n", "used a\xff": "-1\n", "\xffused a": "what\n", "used\xffa": "what\n", "used\xff a": "what\n", "join \xff 1 1": "bad\n", "join a\xff 1 1": "bad\n", "join a \xff 1": "what\n", "join a 1\xff 1": "what\n", "join a 1 1\xff": "what\n", "\xe2\nused a": "what\n-1\n", "\xe2\x80\nused a": "what\n-1\n", "\xe2\x80 used a": "what\n", "used \xe2 ": "-1\n", "used \xe2\n": "-1\n", "used \xe2 \x80": "what\n", "used \xf0\x9f\x98\nused a": "-1\n-1\n", "\xf0 \n\xf0\n": "what\nwhat\n", "used a\xe2\nused b\xe2\n": "-1\n-1\n", "eval 5\xff .": "what\n", "eval '\xff' .": "what\n", "eval 5 .\xff": "what\n", "slim \xff": "what\n", "ways \xff": "what\n", "\xc0\xa0": "what\n", "used\xc0\xa0a": "what\n", "\xc0\x8aused a": "what\n", "join a 1 1\nused a\xff\nused a": "fine\n-1\n0\n", "used \ufffd\nused \xff": "-1\n-1\n",
	} {
		wantDesk(t, script, want)
	}
	// A word of bytes that are no text is not one with others of these.
	wantLines(t, lineCase{"join a 9 9", "fine"}, lineCase{"put a t 1", "fine"}, lineCase{"get a t\xff", "none"}, lineCase{"get a \xfft", "none"}, lineCase{"get a\xff t", "none"}, lineCase{"drop a \xff", "none"}, lineCase{"put a \xff 2", "bad"}, lineCase{"used a", "1"})
}

func TestDeskOfTheMostBytes(t *testing.T) {
	for bytes := 19990; bytes <= 20010; bytes++ {
		want := func(script, want string) {
			t.Helper()
			if len(script) != bytes {
				t.Fatalf("%d bytes, not %d", len(script), bytes)
			}
			if bytes > 20000 {
				want = "long\n"
			}
			wantDesk(t, script, want)
		}
		// Spaces and newlines count, and lines that are done, and such as are none.
		spaces, newlines := strings.Repeat(" ", bytes), strings.Repeat("\n", bytes)
		want(spaces, "")
		want(newlines, "")
		want("used a"+spaces[6:], "-1\n")
		want(spaces[6:]+"used a", "-1\n")
		want("used"+spaces[5:]+"a", "-1\n")
		want("used a"+newlines[6:], "-1\n")
		want(newlines[6:]+"used a", "full\n")
		for _, word := range []string{"a", "\xff", "é", "\t", "世\xf0"} {
			letters := strings.Repeat(word, bytes)
			want(letters[:bytes], "what\n")
			want("used a\n"+letters[:bytes-7], "-1\nwhat\n")
			want(letters[:bytes-7]+"\nused a", "what\n-1\n")
			want("used "+letters[:bytes-5], "-1\n")
			want("join b 1 1\nused "+letters[:bytes-23]+"\nused b", "fine\n-1\n0\n")
		}
	}
	for _, bytes := range []int{20001, 30000, 40000, 65536, 1 << 20} {
		for _, filler := range []string{" ", "\n", "a", "a ", "a\n", "\xff", "used a\n"} {
			wantDesk(t, strings.Repeat(filler, bytes)[:bytes], "long\n")
		}
	}
}

func TestDeskOfTheMostLines(t *testing.T) {
	lines := func(many int, line string) string { return strings.Repeat(line+"\n", many) }
	// done is so many answers, and full, if lines are left then.
	done := func(answer string, many int, left bool) string {
		if left {
			return lines(many, answer) + "full\n"
		}
		return lines(many, answer)
	}
	for many := 190; many <= 215; many++ {
		first, left := min(many, 200), many > 200
		wantDesk(t, lines(many, "used a"), done("-1", first, left))
		wantDesk(t, strings.TrimSuffix(lines(many, "used a"), "\n"), done("-1", first, left))
		wantDesk(t, lines(many, "  fly  "), done("what", first, left))
		wantDesk(t, lines(many, "eval 5 both . ."), done("5\n5\nfine 3", first, left))
		wantDesk(t, lines(many, "slim \xff"), done("what", first, left))
		for _, blank := range []string{"", " ", "     "} {
			// Lines without words alone, behind, ahead, and between.
			wantDesk(t, lines(many, blank), "")
			wantDesk(t, lines(many, "used a")+lines(9, blank), done("-1", first, left))
			wantDesk(t, lines(many, blank)+"used a", done("-1", min(1, 200-min(many, 200)), many >= 200))
			wantDesk(t, lines(many, blank)+"fly\n\n", done("what", min(1, 200-min(many, 200)), many >= 200))
			wantDesk(t, lines(many, blank)+"used a\nused a\n", done("-1", min(2, 200-min(many, 200)), many >= 199))
			wantDesk(t, lines(many/2, "used a\n"+blank), done("-1", min(many/2, 100), many/2 > 100))
			wantDesk(t, lines(many/2, blank+"\nused a"), done("-1", min(many/2, 100), many/2 > 100))
		}
	}
	// Only lines without words behind the last one that is done; then one with words.
	most, answers := lines(200, "used a"), lines(200, "-1")
	for _, blanks := range []string{"\n", "  ", "\n\n\n", "  \n\n   ", lines(500, ""), lines(500, "  ")} {
		wantDesk(t, most+blanks, answers)
		wantDesk(t, most+blanks+"\nx", answers+"full\n")
		wantDesk(t, most+blanks+"\nx\nx\n\nused a\n", answers+"full\n")
		wantDesk(t, most+blanks+"\nused a\n"+blanks, answers+"full\n")
		wantDesk(t, lines(199, "used a")+"join a 1 1\n"+blanks, lines(199, "-1")+"fine\n")
		wantDesk(t, lines(199, "used a")+"\n"+blanks, lines(199, "-1"))
		wantDesk(t, lines(199, "used a")+"\n"+blanks+"\nused a", lines(199, "-1")+"full\n")
	}
}

// answering is a script that answers so many bytes, near 60000. Ann keeps t then, a tree with a text of 1653, and nobody else is there.
func answering(t *testing.T, bytes int) string {
	t.Helper()
	script := "join ann 150 5000\nput ann t " + plain(ofBytes(1653)) + "\n"
	// Each of these answers its text, and "fine 1".
	for left := bytes - len("fine\nfine\n") - 36*1654; left > 0; {
		part := min(left, 22)
		if left > 22 && left < 32 {
			part = 12
		}
		script += "eval '" + strings.Repeat("a", part-10) + "' .\n"
		left -= part
	}
	script += strings.Repeat("get ann t\n", 36)
	if got := deskModel(script); len(got) != bytes {
		t.Fatalf("%d bytes are answered, not %d", len(got), bytes)
	}
	return script
}

func TestDeskOfTheMostThatIsAnswered(t *testing.T) {
	great := plain(ofBytes(1653))
	for bytes := 59990; bytes <= 60010; bytes++ {
		script := answering(t, bytes)
		ahead := deskModel(script)
		for _, c := range []lineCase{{"used ann", "60"}, {"used bob\n", "-1"}, {"fly", "what"}, {"\n  \n   get ann t \n", great}, {"put ann t 5", "fine"}, {"eval 5 none", "fine 1"}, {"get ann t\nused ann", great + "; full"}, {"get ann t\n\n  \nfly\nused ann\n", great + "; full"}, {"get ann t\n\n  \n", great}} {
			if bytes > 60000 {
				c.want = "full"
			}
			wantDesk(t, script+c.line, ahead+c.answered())
		}
		for _, blanks := range []string{"\n", "  ", "\n\n   \n"} {
			wantDesk(t, script+blanks, ahead)
		}
	}
	// The newlines of answers are of the bytes.
	for bytes, want := range map[int]string{59994: "what; -1", 59995: "what; -1", 59996: "what; full", 60000: "what; full"} {
		script := answering(t, bytes)
		wantDesk(t, script+"fly\nused bob", deskModel(script)+lineCase{want: want}.answered())
	}
	// One answer is given as a whole, however much it is.
	twenty := "pipe =[1,2,3,4,5,6,7,8,9,10,11,12,13,14,15,16,17,18,19,20] pipe [] =" + great
	forty, answer := "eval 5 both "+twenty+" "+twenty, strings.Repeat(great+"\n", 40)+"fine 49\n"
	ahead := deskModel(answering(t, 60000))
	wantDesk(t, answering(t, 60000)+forty, ahead+answer)
	wantDesk(t, answering(t, 60000)+forty+"\nx", ahead+answer+"full\n")
	wantDesk(t, forty+"\nx\nx", answer+"full\n")
	wantDesk(t, forty+"\n\n", answer)
	// Both bounds at once.
	wantDesk(t, answering(t, 60001)+strings.Repeat("\n", 200)+"x\nx", deskModel(answering(t, 60001))+"full\n")
}

// deskStart is a script that all lines of rightLines can be done behind.
const deskStart = "join ann 20 60\nput ann t [1,{a:2}]\nput ann u 7\njoin bob 20 60\nput bob t 'bob'"

// rightLines is a line of each kind.
func rightLines() []lineCase {
	return []lineCase{
		{"eval [1,2] []", "1; 2; fine 1"}, {"eval 5 both . .", "5; 5; fine 3"}, {"slim pipe . .a:", ".a:"}, {"slim .", "."}, {"most both . .", "2"}, {"most none", "0"}, {"ways [5]", "$; $[0]; end"}, {"ways null", "$; end"},
		{"join cat 10 5", "fine"}, {"join cat 0 0", "fine"}, {"put ann v 5", "fine"}, {"put ann t [null]", "fine"}, {"drop ann t", "fine"}, {"get ann t", "[1,{a:2}]"}, {"get ann u", "7"}, {"ask ann t []", "1; {a:2}; fine"}, {"ask ann t pipe [1] .a:", "2; fine"}, {"turn ann t .", "fine"}, {"turn ann t row both . .", "fine"}, {"used ann", "5"},
	}
}

// wrongVals is words that are no VAL.
func wrongVals() []string {
	return []string{"fly", "'A'", "'abcdefghijklm'", "'", "''a", "a", "[1", "1]", "[1,]", "[,1]", "{a}", "{a:}", "{b:1,a:2}", "{a:1,a:1}", "{A:1}", "01", "-0", "+1", "1000001", "-1000001", "1.5", "nul", "Null", "TRUE", "[[[[[[1]]]]]]", rowText(60), "\xff", "=5", ".", "VAL", strings.Repeat("[", 3000), "'" + strings.Repeat("a", 3000) + "'"}
}

// wrongFiltTexts is words that are no FILT.
func wrongFiltTexts() []string {
	return []string{"fly", "..", ". .", "none none", "pipe", "pipe .", "pipe . . .", "if . .", "if . . . .", "row", "row . .", "Pipe . .", "PIPE . .", "turn len .", "turn =1 .", "turn .", "=fly", "=", "= 1", "=[1, 2]", "[60]", "[-61]", "[01]", "[ ]", ".A:", ".a", "a:", ".abcdefghijklm:", "make:A .", "make:a", "make .", strings.Repeat("row ", 7) + ".", plainFilt(sized(17, filtOf(impl.FiltId))), "FILT", "\xff", "5", strings.Repeat("a", 7000), strings.Repeat(". ", 3500)}
}

// nearLines is lines like one, but with words that are too few, too many, or in other places, and with other first words. Hardly one of them can be done.
func nearLines(line string) []string {
	words := strings.Fields(line)
	first, behind := words[0], strings.Join(words[1:], " ")
	var all []string
	for at := range words[1:] {
		all = append(all, strings.Join(words[:at+1], " "), strings.Join(slices.Delete(slices.Clone(words), at, at+1), " "))
		for _, more := range []string{"x", ".", "1", "ann", first} {
			all = append(all, strings.Join(slices.Insert(slices.Clone(words), at+1, more), " "))
		}
	}
	for _, more := range []string{"x", "1", ".", "none", "'a'", words[len(words)-1], "\xff", "#"} {
		all = append(all, line+" "+more, line+"   "+more+"  ", line+" "+more+" "+more)
	}
	for at := range first {
		all = append(all, first[:at]+strings.ToUpper(first[at:at+1])+first[at+1:]+" "+behind, first[:at]+first[at+1:]+" "+behind)
	}
	for _, other := range []string{strings.ToUpper(first), first + "s", "x" + first, first + ":", "'" + first + "'", first + "\xff", first + "\t", "-" + first} {
		all = append(all, other+" "+behind)
	}
	return all
}

func TestDeskOfEachLine(t *testing.T) {
	wantBehind(t, deskStart, rightLines()...)
	for _, right := range rightLines() {
		few := right.line[:strings.LastIndex(right.line, " ")]
		great := strings.ToUpper(right.line[:1]) + right.line[1:]
		wantBehind(t, deskStart, lineCase{few, "what"}, lineCase{right.line + " x", "what"}, lineCase{great, "what"})
		for _, line := range nearLines(right.line) {
			wantWhatUnlessRight(t, line)
		}
	}
	for _, line := range []string{"join", "join cat", "join cat 1", "join cat 1 1 1", "put", "put ann", "put ann t", "put ann t 1 1", "put ann t u 1", "drop", "drop ann", "drop ann t u", "get", "get ann", "get ann t u", "ask", "ask ann", "ask ann t", "turn", "turn ann", "turn ann t", "used", "used ann bob", "eval", "eval 5", "slim", "most", "ways", "ways 5 5", "ways .", "eval .", "eval . 5", "fly", "fly ann", "quit", "what", "full", "end", "help", "=", ".", "5", "'a'", "eval5 .", "evaluate 5 .", "evals 5 .", "way 5", "joins cat 1 1", "joi cat 1 1", "ShelfJoin cat 1 1", "#", "# used ann", "//", "-", "used:ann", "used,ann"} {
		wantBehind(t, deskStart, lineCase{line, "what"})
		wantWhatUnlessRight(t, line)
	}
}

// wantWhatUnlessRight asks for what a line answers, which is mostly that it is none, and that nothing was done by such a one.
func wantWhatUnlessRight(t *testing.T, line string) {
	t.Helper()
	wantDesk(t, deskStart+"\n"+line, deskModel(deskStart+"\n"+line))
	if _, can := lineModel(wordsModel(line)); can {
		return
	}
	ahead := deskModel(deskStart) + "what\n"
	look := "get ann t\nget ann u\nget ann v\nget bob t\nused ann\nused bob\nused cat"
	wantDesk(t, deskStart+"\n"+line+"\n"+look, ahead+"[1,{a:2}]\n7\nnone\n'bob'\n5\n1\n-1\n")
}

func TestDeskOfWhatIsNoValAndNoFilt(t *testing.T) {
	for _, word := range wrongVals() {
		for _, line := range []string{"eval " + word + " .", "eval " + word, "ways " + word, "put ann t " + word, "put ann v " + word, "put nobody t " + word, "put ann NO " + word, "put cat cat " + word} {
			wantBehind(t, deskStart, lineCase{line, "what"})
			wantWhatUnlessRight(t, line)
		}
	}
	for _, text := range append(wrongFiltTexts(), "", "   ") {
		for _, line := range []string{"eval 5 " + text, "slim " + text, "most " + text, "ask ann t " + text, "ask nobody t " + text, "ask ann v " + text, "turn ann t " + text, "turn nobody t " + text, "turn ann v " + text, "turn ann NO " + text} {
			wantBehind(t, deskStart, lineCase{line, "what"})
			wantWhatUnlessRight(t, line)
		}
	}
	// As long as a filter may be, and longer; spaces between its words are none of it.
	for bytes := 5990; bytes < 6010; bytes++ {
		text := plainFilt(filtOfBytes(t, bytes))
		want := "4"
		if bytes > 6000 {
			want = "what"
		}
		wantLines(t, lineCase{"most " + text, want}, lineCase{"most    " + strings.ReplaceAll(text, " ", strings.Repeat(" ", 900)) + "     ", want})
	}
}

func TestDeskOfNumbers(t *testing.T) {
	for word, want := range map[string]string{
		"0": "fine", "1": "fine", "9": "fine", "10": "fine", "100": "fine", "149": "fine", "150": "fine",
		"-1": "bad", "-10": "bad", "-150": "bad", "5001": "bad", "1000000": "bad", "4294967296": "bad", "12345678901234567": "bad", "99999999999999999": "bad", "-99999999999999999": "bad", "10000000000000000": "bad", "-12345678901234567": "bad",
		"100000000000000000": "what", "-100000000000000000": "what", "123456789012345678": "what", "999999999999999999": "what", "9223372036854775807": "what", "-9223372036854775808": "what", "9223372036854775808": "what", "18446744073709551616": "what", "18446744073709551617": "what", strings.Repeat("9", 1000): "what", "1" + strings.Repeat("0", 17): "what",
		"-0": "what", "+0": "what", "+1": "what", "01": "what", "00": "what", "-01": "what", "000000000000000001": "what", "00000000000000001": "what", "0000000000000000000000": "what", "-00": "what",
		"1a": "what", "a1": "what", "1a1": "what", "-": "what", "+": "what", "--": "what", "--1": "what", "-+1": "what", "1-": "what", "1-1": "what", "1.0": "what", "1.": "what", ".1": "what", "1e1": "what", "0x1": "what", "0b1": "what", "0o1": "what", "1_0": "what", "1,0": "what", "'1'": "what", "[1]": "what", "null": "what", "N": "what", "1\t": "what", "1\x00": "what", "\xff": "what", "１": "what", "٣": "what", "−1": "what", "½": "what", "=1": "what", ".": "what",
	} {
		wantDesk(t, "join a "+word+" 1", want+"\n")
		wantDesk(t, "join a "+word+" "+word, want+"\n")
		wantDesk(t, "join a   "+word+"    "+word+"   \nused a", want+"\n"+map[bool]string{true: "0", false: "-1"}[want == "fine"]+"\n")
		if word != "5001" {
			wantDesk(t, "join a 1 "+word, want+"\n")
		}
		// Nobody is joined by a word that is no number, whatever the others are.
		if want == "what" {
			wantDesk(t, "join A "+word+" 1\njoin a -5 "+word+"\njoin A 99999 "+word, "what\nwhat\nwhat\n")
		}
	}
	for n := -300; n < 6000; n++ {
		if n > 300 && n < 4900 {
			continue
		}
		most, fuel := "bad", "bad"
		if n >= 0 && n <= 150 {
			most = "fine"
		}
		if n >= 0 && n <= 5000 {
			fuel = "fine"
		}
		wantDesk(t, fmt.Sprint("join a ", n, " 0\njoin b 0 ", n), most+"\n"+fuel+"\n")
	}
}

func TestDeskOfEachCode(t *testing.T) {
	start := "join ann 6 10\nput ann a 1\nput ann b 1\nput ann c 1\nput ann d 1\njoin bob 3 1\nput bob t 5\njoin cat 9 0\nput cat t 5"
	wantBehind(t, start,
		// Fine, none, full, bad and long, of each line that can have them.
		lineCase{"join dan 150 5000", "fine"}, lineCase{"join ann 1 1", "full"}, lineCase{"join bob 0 0", "full"}, lineCase{"join Dan 1 1", "bad"}, lineCase{"join dan 151 1", "bad"}, lineCase{"join dan 1 5001", "bad"}, lineCase{"join dan -1 1", "bad"}, lineCase{"join dan 1 -1", "bad"}, lineCase{"join abcdefghijklm 1 1", "bad"}, lineCase{"join abcdefghijkl 1 1", "fine"}, lineCase{"join ann 151 1", "bad"}, lineCase{"join dan1 1 1", "bad"},
		lineCase{"put ann a [1,2]", "fine"}, lineCase{"put ann a [1,2,3]", "full"}, lineCase{"put ann e 1", "full"}, lineCase{"put dan t 1", "none"}, lineCase{"put Ann a 1", "none"}, lineCase{"put ann A 1", "bad"}, lineCase{"put ann abcdefghijklm 1", "bad"}, lineCase{"put ann A " + rowText(59), "bad"}, lineCase{"put dan A 1", "none"}, lineCase{"put bob t [1,2]", "fine"}, lineCase{"put bob t [1,2,3]", "full"}, lineCase{"put cat t 1", "fine"},
		lineCase{"drop ann a", "fine"}, lineCase{"drop ann t", "none"}, lineCase{"drop dan t", "none"}, lineCase{"drop ann A", "none"}, lineCase{"drop bob a", "none"}, lineCase{"drop a ann", "none"},
		lineCase{"get ann a", "1"}, lineCase{"get bob t", "5"}, lineCase{"get cat t", "5"}, lineCase{"get ann t", "none"}, lineCase{"get dan t", "none"}, lineCase{"get ann A", "none"}, lineCase{"get t ann", "none"},
		lineCase{"ask ann a .", "1; fine"}, lineCase{"ask ann a none", "fine"}, lineCase{"ask ann a both . .", "1; 1; fine"}, lineCase{"ask ann t .", "none"}, lineCase{"ask dan t .", "none"}, lineCase{"ask dan t bad", "none"}, lineCase{"ask ann a bad", "bad"}, lineCase{"ask ann a both . bad", "1; bad"}, lineCase{"ask ann a []", "bad"}, lineCase{"ask bob t .", "5; fine"}, lineCase{"ask bob t both . .", "long"}, lineCase{"ask bob t bad", "bad"}, lineCase{"ask cat t .", "long"}, lineCase{"ask cat t bad", "long"}, lineCase{"ask ann a both . pipe pipe . . pipe pipe . . pipe . .", "1; long"}, lineCase{"ask ann a both . both . both . both . both . .", "1; 1; 1; 1; 1; long"},
		lineCase{"turn ann a .", "fine"}, lineCase{"turn ann a =[1,2]", "fine"}, lineCase{"turn ann a =[1,2,3]", "full"}, lineCase{"turn ann t .", "none"}, lineCase{"turn dan t .", "none"}, lineCase{"turn ann a none", "bad"}, lineCase{"turn ann a both . .", "bad"}, lineCase{"turn ann a bad", "bad"}, lineCase{"turn ann a both . bad", "bad"}, lineCase{"turn bob t row .", "long"}, lineCase{"turn bob t =[1,2,3]", "full"}, lineCase{"turn cat t .", "long"}, lineCase{"turn cat t bad", "long"},
		lineCase{"used ann", "4"}, lineCase{"used bob", "1"}, lineCase{"used cat", "1"}, lineCase{"used dan", "-1"}, lineCase{"used Ann", "-1"}, lineCase{"used t", "-1"}, lineCase{"used 5", "-1"},
		lineCase{"eval 5 .", "5; fine 1"}, lineCase{"eval 5 bad", "bad 1"}, lineCase{"eval 5 " + hungry(3), "long 400"})
	// Nobody is there.
	wantBehind(t, "", lineCase{"put ann t 1", "none"}, lineCase{"put A t 1", "none"}, lineCase{"drop ann t", "none"}, lineCase{"get ann t", "none"}, lineCase{"ask ann t .", "none"}, lineCase{"ask ann t none", "none"}, lineCase{"ask ann t bad", "none"}, lineCase{"turn ann t .", "none"}, lineCase{"turn ann t bad", "none"}, lineCase{"used ann", "-1"}, lineCase{"join ann 1 1", "fine"})
	// As many askers as may be, and one more; those who are there go on.
	wantLines(t, lineCase{"join ann 1 1", "fine"}, lineCase{"join bob 2 2", "fine"}, lineCase{"join ann 3 3", "full"}, lineCase{"join cat 3 3", "fine"}, lineCase{"join dan 4 4", "fine"}, lineCase{"join eve 5 5", "full"}, lineCase{"used eve", "-1"}, lineCase{"put eve t 1", "none"}, lineCase{"join eve 151 5", "bad"}, lineCase{"join Eve 1 1", "bad"}, lineCase{"join dan 9 9", "full"}, lineCase{"put dan t [1,2,3]", "fine"}, lineCase{"put dan t [1,2,3,4]", "full"}, lineCase{"put ann t 1", "fine"}, lineCase{"put ann t [1]", "full"}, lineCase{"used dan", "4"}, lineCase{"used ann", "1"}, lineCase{"used bob", "0"}, lineCase{"join eve 0 0", "full"})
}

func TestDeskEval(t *testing.T) {
	wantBehind(t, deskStart,
		// Nothing, one thing, and several.
		lineCase{"eval 5 none", "fine 1"}, lineCase{"eval [] []", "fine 1"}, lineCase{"eval {} []", "fine 1"}, lineCase{"eval 5 try bad", "fine 2"}, lineCase{"eval [1,2] pipe [] none", "fine 4"}, lineCase{"eval 5 .", "5; fine 1"}, lineCase{"eval null .", "null; fine 1"}, lineCase{"eval {a:5} .a:", "5; fine 1"}, lineCase{"eval {a:5} .b:", "null; fine 1"}, lineCase{"eval 5 ='x'", "'x'; fine 1"}, lineCase{"eval [1,'a',{b:null}] []", "1; 'a'; {b:null}; fine 1"}, lineCase{"eval 5 both . both =1 .", "5; 1; 5; fine 5"}, lineCase{"eval [3,1] row []", "[3,1]; fine 2"}, lineCase{"eval 5 else none =7", "7; fine 3"}, lineCase{"eval [1,[2]] turn [] row .", "[[1],[[2]]]; fine 6"}, lineCase{"eval -1000000 .", "-1000000; fine 1"}, lineCase{"eval '' .", "''; fine 1"}, lineCase{"eval true not", "false; fine 1"},
		// Something bad, also behind some that were told.
		lineCase{"eval 5 bad", "bad 1"}, lineCase{"eval 5 []", "bad 1"}, lineCase{"eval 5 both . bad", "5; bad 3"}, lineCase{"eval 5 both bad .", "bad 2"}, lineCase{"eval [1,2,'a',3] pipe [] add . =1", "2; 3; bad 11"}, lineCase{"eval 5 row both . bad", "bad 4"}, lineCase{"eval 5 try both . bad", "5; fine 4"}, lineCase{"eval 1000000 add . =1", "bad 3"}, lineCase{"eval [1,2] both [] .a:", "1; 2; bad 3"},
		// All fuel, just so, and more than that.
		lineCase{"eval 5 " + hungry(0), "1; fine 398"}, lineCase{"eval 5 " + hungry(1), "1; fine 399"}, lineCase{"eval 5 " + hungry(2), "1; fine 400"}, lineCase{"eval 5 " + hungry(3), "long 400"}, lineCase{"eval 5 " + hungry(4), "long 400"}, lineCase{"eval 5 both . " + hungry(0), "5; 1; fine 400"}, lineCase{"eval 5 both . " + hungry(1), "5; long 400"}, lineCase{"eval 5 both both . =6 " + hungry(1), "5; 6; long 400"},
		// As many things as may be told, and one more.
		lineCase{"eval " + rowText(40) + " []", strings.ReplaceAll(strings.Trim(rowText(40), "[]"), ",", "; ") + "; fine 1"}, lineCase{"eval " + rowText(41) + " []", strings.ReplaceAll(strings.Trim(rowText(40), "[]"), ",", "; ") + "; long 400"}, lineCase{"eval " + rowText(41) + " row []", "long 400"}, lineCase{"eval " + rowText(59) + " []", strings.ReplaceAll(strings.Trim(rowText(40), "[]"), ",", "; ") + "; long 400"})
	// What is evaluated takes nobody's fuel, and turns nothing.
	wantLines(t, lineCase{"join ann 9 2", "fine"}, lineCase{"put ann t 5", "fine"}, lineCase{"eval 5 " + hungry(3), "long 400"}, lineCase{"eval 5 turn . =6", "6; fine 3"}, lineCase{"ask ann t .", "5; fine"}, lineCase{"eval 5 " + hungry(2), "1; fine 400"}, lineCase{"eval 5 " + hungry(2), "1; fine 400"}, lineCase{"ask ann t .", "5; fine"}, lineCase{"ask ann t .", "long"}, lineCase{"eval 5 .", "5; fine 1"})
}

func TestDeskSlimAndMost(t *testing.T) {
	wantBehind(t, deskStart,
		lineCase{"slim pipe . .a:", ".a:"}, lineCase{"slim pipe .a: .b:", "pipe .a: .b:"}, lineCase{"slim .", "."}, lineCase{"slim none", "none"}, lineCase{"slim bad", "bad"}, lineCase{"slim []", "[]"}, lineCase{"slim [-60]", "[-60]"}, lineCase{"slim =[1,{a:'x'}]", "=[1,{a:'x'}]"}, lineCase{"slim add =1 =2", "=3"}, lineCase{"slim add =1 ='a'", "bad"}, lineCase{"slim if =null .a: .b:", ".b:"}, lineCase{"slim try pipe . .", "."}, lineCase{"slim make:k both none .", "make:k ."}, lineCase{"slim turn [] add =1 add =2 =3", "turn [] =6"}, lineCase{"slim turn if . . .b: .", "turn if . . .b: ."}, lineCase{"slim pipe try add =1 =2 if none .a: both .b: .a:", "pipe =3 none"}, lineCase{"slim else bad both bad .", "bad"}, lineCase{"slim .:", ".:"},
		lineCase{"slim    pipe    .      .a:   ", ".a:"}, lineCase{"  slim  pipe   .a:   .b: ", "pipe .a: .b:"}, lineCase{"slim both    both   .  .    row    []", "both both . . row []"},
		lineCase{"most .", "1"}, lineCase{"most none", "0"}, lineCase{"most bad", "0"}, lineCase{"most []", "-1"}, lineCase{"most row []", "1"}, lineCase{"most both . .", "2"}, lineCase{"most both . both . []", "-1"}, lineCase{"most pipe both . . both . both . .", "6"}, lineCase{"most if both . . both . . .", "4"}, lineCase{"most else none both . .", "2"}, lineCase{"most try none", "0"}, lineCase{"most make:a both . .", "2"}, lineCase{"most turn [] bad", "1"}, lineCase{"most pipe none []", "-1"}, lineCase{"most pipe pipe . . none", "0"}, lineCase{"most add both . . both . .", "4"},
		lineCase{"most     both    .     .    ", "2"}, lineCase{"  most   pipe   both . .    both .   both   . . ", "6"},
		lineCase{"most " + plainFilt(sized(16, filtOf(impl.FiltId))), deskWord("most " + plainFilt(sized(16, filtOf(impl.FiltId))))}, lineCase{"slim " + strings.Repeat("row ", 6) + ".", "row row row row row row ."}, lineCase{"most " + strings.Repeat("row ", 7) + ".", "what"})
}

// deskWord is what the model has of a line, without its newline.
func deskWord(line string) string { return strings.TrimSuffix(deskModel(line), "\n") }

func TestDeskWays(t *testing.T) {
	deep := "$; $[0]; $[0][0]; $[0][0][0]; $[0][0][0][0]; $[0][0][0][0][0]; end"
	var wide []string
	for at := range 59 {
		wide = append(wide, fmt.Sprintf("$[%d]", at))
	}
	wantBehind(t, deskStart,
		lineCase{"ways 5", "$; end"}, lineCase{"ways null", "$; end"}, lineCase{"ways ''", "$; end"}, lineCase{"ways 'end'", "$; end"}, lineCase{"ways []", "$; end"}, lineCase{"ways {}", "$; end"}, lineCase{"ways [1]", "$; $[0]; end"}, lineCase{"ways {a:1}", "$; $.a; end"}, lineCase{"ways {:1}", "$; $.; end"}, lineCase{"ways {end:1}", "$; $.end; end"},
		lineCase{"ways [1,[2,3],{a:4,b:[5]}]", "$; $[0]; $[1]; $[1][0]; $[1][1]; $[2]; $[2].a; $[2].b; $[2].b[0]; end"}, lineCase{"ways {a:{b:{c:null}},d:[[]]}", "$; $.a; $.a.b; $.a.b.c; $.d; $.d[0]; end"}, lineCase{"ways [[[[[1]]]]]", deep}, lineCase{"ways " + rowText(59), "$; " + strings.Join(wide, "; ") + "; end"}, lineCase{"  ways   [1]  ", "$; $[0]; end"}, lineCase{"ways {abcdefghijkl:{abcdefghijkl:{abcdefghijkl:{abcdefghijkl:{abcdefghijkl:1}}}}}", deskAnswer("ways {abcdefghijkl:{abcdefghijkl:{abcdefghijkl:{abcdefghijkl:{abcdefghijkl:1}}}}}")})
}

// deskAnswer is what the model has of a line, as a lineCase has it.
func deskAnswer(line string) string { return strings.ReplaceAll(deskWord(line), "\n", "; ") }

func TestDeskKeepsWhatIsPut(t *testing.T) {
	wantLines(t,
		// Two with one name for a tree.
		lineCase{"join ann 9 50", "fine"}, lineCase{"join bob 9 50", "fine"}, lineCase{"put ann t [1,2]", "fine"}, lineCase{"put bob t {a:1}", "fine"}, lineCase{"get ann t", "[1,2]"}, lineCase{"get bob t", "{a:1}"}, lineCase{"turn ann t add . =[3]", "fine"}, lineCase{"get bob t", "{a:1}"}, lineCase{"get ann t", "[1,2,3]"}, lineCase{"used ann", "4"}, lineCase{"used bob", "2"},
		lineCase{"drop bob t", "fine"}, lineCase{"get bob t", "none"}, lineCase{"get ann t", "[1,2,3]"}, lineCase{"drop bob t", "none"}, lineCase{"used bob", "0"}, lineCase{"put bob t 7", "fine"}, lineCase{"put bob t 8", "fine"}, lineCase{"get bob t", "8"}, lineCase{"used bob", "1"},
		// A code leaves all as it was.
		lineCase{"put ann u [1,2,3,4,5]", "full"}, lineCase{"get ann u", "none"}, lineCase{"put ann t [1,2,3,4,5,6,7,8,9]", "full"}, lineCase{"get ann t", "[1,2,3]"}, lineCase{"put ann U 1", "bad"}, lineCase{"turn ann t =[1,2,3,4,5,6,7,8,9]", "full"}, lineCase{"turn ann t both . .", "bad"}, lineCase{"turn ann t bad", "bad"}, lineCase{"turn ann t none", "bad"}, lineCase{"get ann t", "[1,2,3]"}, lineCase{"used ann", "4"}, lineCase{"join ann 150 5000", "full"}, lineCase{"put ann t [1,2,3,4,5,6,7,8,9]", "full"}, lineCase{"put ann u [1,2,3,4]", "fine"}, lineCase{"used ann", "9"}, lineCase{"put ann v null", "full"}, lineCase{"drop ann v", "none"}, lineCase{"used ann", "9"}, lineCase{"drop ann t", "fine"}, lineCase{"put ann v null", "fine"}, lineCase{"used ann", "6"}, lineCase{"get ann t", "none"}, lineCase{"get ann v", "null"})
	// A tree of the greatest kind, from the script and back.
	great := plain(ofBytes(1653))
	wantLines(t, lineCase{"join ann 150 9", "fine"}, lineCase{"put ann t " + great, "fine"}, lineCase{"get ann t", great}, lineCase{"put ann u " + great, "fine"}, lineCase{"put ann v " + great, "full"}, lineCase{"used ann", "120"}, lineCase{"ask ann t both . .", great + "; " + great + "; fine"}, lineCase{"put ann v [[[[[1]]]]]", "fine"}, lineCase{"get ann v", "[[[[[1]]]]]"}, lineCase{"used ann", "126"})
	// A name may be any word of the desk, or that of an asker.
	wantLines(t, lineCase{"join join 9 9", "fine"}, lineCase{"put join put 1", "fine"}, lineCase{"put join join 2", "fine"}, lineCase{"get join join", "2"}, lineCase{"get put join", "none"}, lineCase{"join what 9 9", "fine"}, lineCase{"put what full 3", "fine"}, lineCase{"put what none 4", "fine"}, lineCase{"get what none", "4"}, lineCase{"get what full", "3"}, lineCase{"get join put", "1"}, lineCase{"used join", "2"}, lineCase{"join null 0 0", "fine"}, lineCase{"used null", "0"})
}

func TestDeskLeavesFuelBehindAsksAndTurns(t *testing.T) {
	wantLines(t, lineCase{"join ann 9 7", "fine"}, lineCase{"join bob 9 3", "fine"}, lineCase{"put ann t 5", "fine"}, lineCase{"put bob t 5", "fine"},
		lineCase{"ask ann t both . .", "5; 5; fine"}, lineCase{"ask ann t bad", "bad"}, lineCase{"get ann t", "5"}, lineCase{"ask nobody t .", "none"}, lineCase{"ask ann u .", "none"}, lineCase{"ask ann t fly", "what"}, lineCase{"eval 5 both . .", "5; 5; fine 3"}, lineCase{"turn ann t add . =1", "fine"}, lineCase{"get ann t", "6"}, lineCase{"ask ann t .", "long"}, lineCase{"turn ann t .", "long"}, lineCase{"ask ann t none", "long"}, lineCase{"get ann t", "6"},
		lineCase{"ask bob t both . both . .", "5; long"}, lineCase{"ask bob t .", "long"}, lineCase{"put bob t 8", "fine"}, lineCase{"get bob t", "8"}, lineCase{"turn bob t =9", "long"}, lineCase{"get bob t", "8"}, lineCase{"join bob 9 50", "full"}, lineCase{"ask bob t .", "long"})
	// What could not be kept took fuel too.
	wantLines(t, lineCase{"join ann 1 4", "fine"}, lineCase{"put ann t 5", "fine"}, lineCase{"turn ann t row .", "full"}, lineCase{"turn ann t none", "bad"}, lineCase{"turn ann t .", "fine"}, lineCase{"turn ann t .", "long"})
	// No more than RunFuel is taken by one ask.
	wantLines(t, lineCase{"join ann 9 801", "fine"}, lineCase{"put ann t 5", "fine"}, lineCase{"ask ann t " + hungry(3), "long"}, lineCase{"turn ann t " + hungry(3), "long"}, lineCase{"ask ann t .", "5; fine"}, lineCase{"ask ann t .", "long"}, lineCase{"eval 5 " + hungry(2), "1; fine 400"})
	// Some 12 asks of all fuel there is.
	lines := []lineCase{{"join ann 9 5000", "fine"}, {"put ann t 5", "fine"}}
	for range 12 {
		lines = append(lines, lineCase{"ask ann t " + hungry(3), "long"})
	}
	for range 20 {
		lines = append(lines, lineCase{"ask ann t both . both . both =1 =2", "5; 5; 1; 2; fine"})
	}
	wantDesk(t, linesOf(lines)+"turn ann t "+hungry(0)+"\nget ann t", deskModel(linesOf(lines))+"long\n5\n")
	// By how many asks end well it is seen how much there was.
	for fuel := range 16 {
		lines := []lineCase{{fmt.Sprint("join ann 9 ", fuel), "fine"}, {"put ann t 5", "fine"}}
		for left := fuel; len(lines) < 7; left = max(left-3, 0) {
			lines = append(lines, lineCase{"ask ann t both . .", [...]string{"long", "long", "5; long", "5; 5; fine"}[min(left, 3)]})
		}
		wantLines(t, lines...)
	}
}

func linesOf(cases []lineCase) string {
	script := ""
	for _, c := range cases {
		script += c.line + "\n"
	}
	return script
}

func TestDeskDoesNothingByWhatIsNoLine(t *testing.T) {
	wrong := []string{"fly", "join dan 1", "join dan 1 01", "join dan 1 1 1", "join dan -0 1", "put ann t", "put ann t fly", "put ann t 9 9", "put ann w [1,2", "drop ann", "drop ann t t", "Drop ann t", "DROP ann t", "get ann", "ask ann t", "ask ann t fly", "ask ann t both .", "ask ann t both . . .", "turn ann t", "turn ann t =fly", "turn ann t =9 =9", "turn ann t turn len .", "turn ann t both =9", "used", "used ann ann", "eval 5", "slim", "most", "ways", "\xff", "\t", "drop\tann t", "drop ann\u00a0t"}
	right := "get ann t\nget ann w\nused ann\nused dan\nask ann t both . .\nused bob"
	for fuel := range 9 {
		start := fmt.Sprintf("join ann 9 %d\nput ann t [1]\njoin bob 1 1", fuel)
		for _, line := range wrong {
			with, without := start, start
			want := strings.Split(deskModel(start), "\n")
			want = want[:len(want)-1]
			for _, next := range strings.Split(right, "\n") {
				with += "\n" + line + "\n" + next
				answer := strings.TrimPrefix(deskModel(without+"\n"+next), deskModel(without))
				without += "\n" + next
				want = append(want, "what", strings.TrimSuffix(answer, "\n"))
			}
			wantDesk(t, with, strings.Join(want, "\n")+"\n")
		}
	}
}

// deskLine is a line of somebody; most can be done.
func (d *dice) deskLine(t *testing.T, who string) string {
	name := treeNames[d.below(1+d.below(5))]
	f := d.tame(d.filters(1)[0])
	if d.below(2) == 0 {
		f = readFilt(t, growing[d.below(len(growing))])
	}
	v, filt := plain(d.grown()), plainFilt(f)
	line := [...]string{
		"eval " + v + " " + filt, "slim " + plainFilt(d.lean(f)), "most " + filt, "ways " + v,
		fmt.Sprint("join ", who, " ", d.most(), " ", d.fuel()-d.below(2)), "put " + who + " " + name + " " + v, "put " + who + " " + name + " " + v, "put " + who + " " + name + " 5", "drop " + who + " " + name, "get " + who + " " + name, "get " + who + " " + name,
		"ask " + who + " " + name + " " + filt, "ask " + who + " " + name + " " + filt, "turn " + who + " " + name + " " + filt, "turn " + who + " " + name + " " + filt, "used " + who,
	}[d.below(16)]
	switch d.below(12) {
	case 0:
		return d.spoiled(line)
	case 1:
		return strings.ReplaceAll(" "+line+" ", " ", strings.Repeat(" ", 1+d.below(3)))
	case 2:
		return strings.Repeat(" ", d.below(2))
	}
	return line
}

// spoiled is a line with something wrong, or perhaps not.
func (d *dice) spoiled(line string) string {
	words := strings.Fields(line)
	at := d.below(len(words))
	switch d.below(6) {
	case 0:
		return strings.Join(slices.Delete(words, at, at+1), " ")
	case 1:
		return strings.Join(slices.Insert(words, at, words[d.below(len(words))]), " ")
	case 2:
		return strings.Join(words[:at+1], " ")
	case 3:
		return line + " " + [...]string{".", "x", "1", "=fly", "ann", "\xff", "\t"}[d.below(7)]
	case 4:
		return strings.ToUpper(line[:1]) + line[1:]
	}
	cut := d.below(len(line))
	return line[:cut] + [...]string{"", " ", "\t", "\xff", "é", "A", "0", "-", "]", "\x00"}[d.below(10)] + line[cut+1:]
}

// deskLines is so many lines, each with somebody whose line it is, of those who are named; ahead of all these have joined, if they are to.
func (d *dice) deskLines(t *testing.T, names []string, many int, joined bool) (lines, whose []string) {
	add := func(who, line string) {
		lines, whose = append(lines, line), append(whose, who)
	}
	for _, who := range names {
		if joined && d.below(8) > 0 {
			add(who, fmt.Sprint("join ", who, " ", max(d.most(), 3), " ", d.fuel()))
			add(who, "put "+who+" a "+plain(d.grown()))
		}
	}
	for range many {
		who := names[d.below(len(names))]
		add(who, d.deskLine(t, who))
	}
	return lines, whose
}

// answersOf is what each line answers behind those ahead of it; it asks that the answers of more lines begin as those of fewer.
func answersOf(t *testing.T, lines []string) []string {
	t.Helper()
	var answers []string
	ahead := ""
	for i := range lines {
		script := strings.Join(lines[:i+1], "\n")
		all := impl.DeskRun(script)
		answer, ok := strings.CutPrefix(all, ahead)
		if !ok {
			t.Fatalf("%q\nanswers %q,\nwhich does not begin as that of its first lines, %q", script, all, ahead)
		}
		answers, ahead = append(answers, answer), all
	}
	return answers
}

func TestDeskAnswersWhatItsFirstLinesAnswerAndThenTheOthers(t *testing.T) {
	d := dice(101)
	ended := map[string]int{}
	for range 200 {
		lines, _ := d.deskLines(t, whoNames, 50, true)
		script := strings.Join(lines, "\n")
		if len(script) > impl.DeskMaxText {
			continue
		}
		all := wantDesk(t, script, deskModel(script))
		answers := answersOf(t, lines)
		if strings.Join(answers, "") != all {
			t.Fatalf("%q: not what its lines answer", script)
		}
		for i, answer := range answers {
			words := append(wordsModel(lines[i]), "nothing")
			if (words[0] == "nothing") != (answer == "") || answer != "" && !strings.HasSuffix(answer, "\n") {
				t.Fatalf("%q is answered by %q", lines[i], answer)
			}
			parts := strings.Split(answer, "\n")
			end := words[0] + " " + strings.Fields(parts[max(len(parts)-2, 0)] + " -")[0]
			ended[end]++
			if len(parts) > 2 {
				ended[end+" behind others"]++
			}
		}
	}
	for _, what := range strings.Split("eval fine,eval bad,eval long,eval fine behind others,eval bad behind others,eval long behind others,eval what,slim what,most -1,most 0,most 1,most 2,most what,ways end,ways what,join fine,join full,join bad,join what,put fine,put none,put full,put what,drop fine,drop none,drop what,get none,get 5,get what,ask fine,ask none,ask bad,ask long,ask what,ask fine behind others,ask bad behind others,ask long behind others,turn fine,turn none,turn full,turn bad,turn long,turn what,used -1,used 0,used 5,used what,nothing -", ",") {
		if ended[what] < 10 {
			t.Errorf("%s only %d times", what, ended[what])
		}
	}
}

// whoOf is who is named by a line that can be done; nobody, if that names none.
func whoOf(line string) string {
	words := wordsModel(line)
	if len(words) == 0 {
		return ""
	}
	c, can := lineModel(words)
	if !can {
		return ""
	}
	return c.who
}

func TestDeskDoesNothingToOneByWhatAnotherOneDoes(t *testing.T) {
	d := dice(102)
	done := 0
	for range 200 {
		// No more than there may be, so that there is room for all.
		names := whoNames[:2+d.below(3)]
		lines, whose := d.deskLines(t, names, 50, true)
		for i, line := range lines {
			// What is spoiled may be a line of another one.
			if who := whoOf(line); who != "" && who != whose[i] {
				lines[i] = ""
			}
		}
		if script := strings.Join(lines, "\n"); len(script) > impl.DeskMaxText || len(deskModel(script)) > impl.DeskMaxOut {
			continue
		}
		answers := answersOf(t, lines)
		for _, one := range names {
			var own, want []string
			for i, who := range whose {
				if who == one {
					own, want = append(own, lines[i]), append(want, answers[i])
				}
			}
			if got := answersOf(t, own); !slices.Equal(got, want) {
				t.Fatalf("%s alone:\n%q\nanswers %q,\nnot %q", one, own, got, want)
			}
			done++
		}
		// Nor by lines that are none, or without words.
		var spaced []string
		for _, line := range lines {
			spaced = append(spaced, [...]string{"", "   ", "\n"}[d.below(3)], line)
		}
		if many := strings.Count(strings.Join(spaced, "\n"), "\n") + 1; many <= impl.DeskMaxLines {
			script := strings.Join(spaced, "\n")
			wantDesk(t, script, strings.Join(answers, ""))
		}
	}
	if done < 500 {
		t.Errorf("only %d askers alone", done)
	}
}

func TestDeskOfWhateverText(t *testing.T) {
	d := dice(103)
	pieces := []string{" ", " ", " ", "\n", "\n", "  ", "\t", "\r\n", "\xff", "é", "\x00", "eval", "slim", "most", "ways", "join", "put", "drop", "get", "ask", "turn", "used", "ann", "bob", "t", "u", "1", "0", "-1", "5", "01", "[1,2]", "{a:[1]}", "'x'", "null", ".", "[]", ".a:", "=1", "both", "pipe", "row", "none", "bad", "join ann 9 9\n", "join bob 9 9\n", "put ann t [1,2]\n", "put bob t 5\n", "get ann t\n", "ask ann t []\n", "turn bob t row .\n", "used ann\n"}
	whats, others := 0, 0
	for range 6000 {
		script := ""
		for range d.below(40) {
			script += pieces[d.below(len(pieces))]
			if d.below(2) == 0 {
				script += " "
			}
		}
		got := wantDesk(t, script, deskModel(script))
		whats += strings.Count("\n"+got, "\nwhat\n")
		others += strings.Count(got, "\n")
	}
	if whats < 5000 || others-whats < 5000 {
		t.Errorf("%d are no lines, %d are", whats, others-whats)
	}
	for range 3000 {
		var script []byte
		for range d.below(60) {
			script = append(script, byte(d.below(256)))
			if d.below(3) == 0 {
				script = append(script, " \n"[d.below(2)])
			}
		}
		wantDesk(t, string(script), deskModel(string(script)))
	}
}

func TestDeskKeepsNothingBetweenCalls(t *testing.T) {
	d := dice(104)
	var scripts, wants []string
	for range 40 {
		lines, _ := d.deskLines(t, whoNames, 30, true)
		script := strings.Join(lines, "\n")
		scripts, wants = append(scripts, script), append(wants, impl.DeskRun(script))
	}
	// Who joined in one script is not there in the next one.
	for range 3 {
		wantDesk(t, "join ann 9 9\nput ann t 5\nused ann", "fine\nfine\n1\n")
		wantDesk(t, "used ann\nget ann t\njoin ann 1 1\nused ann", "-1\nnone\nfine\n0\n")
	}
	// In another order, and at one time.
	for i := range slices.Backward(scripts) {
		if impl.DeskRun(scripts[i]) != wants[i] {
			t.Fatalf("%q is answered in another way later", scripts[i])
		}
	}
	var all sync.WaitGroup
	for range 4 {
		all.Go(func() {
			for i, script := range scripts {
				if impl.DeskRun(script) != wants[i] {
					t.Errorf("%q is answered in another way beside others", script)
				}
			}
		})
	}
	all.Wait()
}
