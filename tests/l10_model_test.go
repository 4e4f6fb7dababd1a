package tests

import (
	"fmt"
	"regexp"
	"slices"
	"strconv"
	"strings"

	"loop.example/cribble/impl"
)

// deskShapes is what stands behind the first word of each line.
var deskShapes = map[string]string{
	"eval": "VAL FILT", "slim": "FILT", "most": "FILT", "ways": "VAL",
	"join": "WHO N M", "put": "WHO NAME VAL", "drop": "WHO NAME", "get": "WHO NAME", "ask": "WHO NAME FILT", "turn": "WHO NAME FILT", "used": "WHO",
}

// deskNumber is what N and M may be.
var deskNumber = regexp.MustCompile(`^(?:0|-?[1-9][0-9]{0,16})$`)

// wordsModel is the words of a line.
func wordsModel(line string) []string {
	return slices.DeleteFunc(strings.Split(line, " "), func(word string) bool { return word == "" })
}

// deskModel is what a script must answer, without the program but for ValRead.
func deskModel(text string) string {
	if len(text) > 20000 {
		return "long\n"
	}
	out, s := "", impl.Shelf{}
	for ahead, line := range strings.Split(text, "\n") {
		words := wordsModel(line)
		if len(words) == 0 {
			continue
		}
		if ahead >= 200 || len(out) > 60000 {
			return out + "full\n"
		}
		answer := []string{"what"}
		if c, can := lineModel(words); can {
			answer, s = answerModel(c, s)
		}
		out += strings.Join(answer, "\n") + "\n"
	}
	return out
}

// lineModel is what a line asks for, as if it were a call of chapter 9, and whether it is one of the table.
func lineModel(words []string) (shelfCall, bool) {
	shape, ok := deskShapes[words[0]]
	c := shelfCall{do: words[0]}
	words = words[1:]
	for _, what := range strings.Fields(shape) {
		if what == "FILT" {
			c.f, ok = readModel(strings.Join(words, " "))
			return c, ok
		}
		if len(words) == 0 || !c.take(what, words[0]) {
			return c, false
		}
		words = words[1:]
	}
	return c, ok && len(words) == 0
}

// take takes one word of a line, and says whether it is what stands there.
func (c *shelfCall) take(what, word string) bool {
	ok := true
	switch what {
	case "VAL":
		c.v, ok = impl.ValRead(word)
	case "WHO":
		c.who = word
	case "NAME":
		c.name = word
	default:
		ok = deskNumber.MatchString(word)
		n, _ := strconv.Atoi(word)
		if what == "N" {
			c.most = n
		} else {
			c.fuel = n
		}
	}
	return ok
}

// answerModel is what a line answers, line by line, and the shelf then.
func answerModel(c shelfCall, s impl.Shelf) ([]string, impl.Shelf) {
	switch c.do {
	case "eval":
		m := runModel{fuel: 400}
		list, code, left := m.runOf(c.f, c.v)
		return append(plainLines(list), fmt.Sprint(codeWords[code], " ", 400-left)), s
	case "slim":
		return []string{plainFilt(slimModel{map[[2]int]int{}}.of(c.f))}, s
	case "most":
		return []string{strconv.Itoa(tellModel(c.f))}, s
	case "ways":
		var lines []string
		for _, way := range waysModel(c.v, nil) {
			lines = append(lines, plainWay(way))
		}
		return append(lines, "end"), s
	}
	told := c.model(s)
	switch {
	case c.do == "used":
		return []string{strconv.Itoa(told.code)}, s
	case c.do == "get" && told.code == 0:
		return plainLines(told.list), s
	case c.do == "get":
		return []string{shelfWords[told.code]}, s
	}
	return append(plainLines(told.list), shelfWords[told.code]), told.s
}

// plainLines is trees, each in a line.
func plainLines(list []impl.Val) []string {
	var lines []string
	for _, v := range list {
		lines = append(lines, plain(v))
	}
	return lines
}
