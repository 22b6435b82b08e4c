package warden

import (
	"math/rand"
	"regexp"
	"strings"

	"warden/api"
)

// What stands here reads schemas in another way than the program does: by patterns, and by walking along the arrows.

var (
	typeLine     = regexp.MustCompile(`^type ([a-z]{1,8})$`)
	relationLine = regexp.MustCompile(`^(rel|set) ([a-z]{1,8}) (.*)$`)
	oneTerm      = regexp.MustCompile(`^([a-z]{1,8})(\.([a-z]{1,8}))?$`)
	bracketed    = regexp.MustCompile(`\( (T( \| T)*|T( & T)*|T - T) \)`)
	joined       = regexp.MustCompile(`^(T( \| T)*|T( & T)*|T - T)$`)
)

// told is a relation that a line has told.
type told struct {
	of, name string
	set      bool
	words    []string
	line     int
}

func likeTheWords(text string) (int, api.Errno) {
	if len(text) > 2000 {
		return 0, api.ErrLong
	}
	all := strings.Split(text, "\n")
	var types []string
	var rels []told
	for i, line := range all {
		if e := readLine(i, line, &types, &rels); e != api.OK {
			return i, e
		}
	}
	for _, r := range rels {
		for _, w := range r.words {
			if namesNothing(w, r, rels) {
				return r.line, api.ErrName
			}
		}
	}
	if anyBadRing(rels) {
		return len(all), api.ErrRing
	}
	return len(types), api.OK
}

func readLine(i int, line string, types *[]string, rels *[]told) api.Errno {
	if line == "" || strings.HasPrefix(line, "//") {
		return api.OK
	}
	if m := typeLine.FindStringSubmatch(line); m != nil && m[1] != "self" {
		for _, other := range *types {
			if other == m[1] {
				return api.ErrName
			}
		}
		if *types = append(*types, m[1]); len(*types) > 6 {
			return api.ErrLong
		}
		return api.OK
	}
	m := relationLine.FindStringSubmatch(line)
	if m == nil || m[2] == "self" || len(*types) == 0 || !isExpression(m[3]) {
		return api.ErrLine
	}
	of, count := (*types)[len(*types)-1], 1
	for _, other := range *rels {
		if other.of == of {
			count++
			if other.name == m[2] {
				return api.ErrName
			}
		}
	}
	if count > 6 {
		return api.ErrLong
	}
	*rels = append(*rels, told{of, m[2], m[1] == "set", strings.Split(m[3], " "), i})
	return api.OK
}

// isExpression takes every term for T, and then brackets for T, as long as there are any.
func isExpression(text string) bool {
	l := strings.Split(text, " ")
	for i, w := range l {
		m := oneTerm.FindStringSubmatch(w)
		if m != nil && (w == "self" || m[1] != "self" && m[3] != "self") {
			l[i] = "T"
		} else if w == "T" {
			return false
		}
	}
	text = strings.Join(l, " ")
	for {
		next := bracketed.ReplaceAllString(text, "T")
		if next == text {
			return joined.MatchString(text)
		}
		text = next
	}
}

func namesNothing(word string, r told, rels []told) bool {
	m := oneTerm.FindStringSubmatch(word)
	if m == nil || word == "self" {
		return false
	}
	here, anywhere := false, m[3] == ""
	for _, o := range rels {
		here = here || o.of == r.of && o.name == m[1]
		anywhere = anywhere || o.name == m[3]
	}
	return !here || !anywhere
}

// hangs visits what a relation hangs on. Of each open bracket it keeps whether what is around it was behind a `-`.
func hangs(r told, rels []told, visit func(on int, against bool)) {
	var around []bool
	behind := false
	for _, w := range r.words {
		switch w {
		case "(":
			around = append(around, behind)
		case ")":
			behind = around[len(around)-1]
			around = around[:len(around)-1]
		case "-":
			behind = true
		case "|", "&":
		default:
			m := oneTerm.FindStringSubmatch(w)
			for i, o := range rels {
				if w == "self" && o.set || w != "self" && (m[3] == "" && o.of == r.of && o.name == m[1] || m[3] != "" && o.name == m[3]) {
					visit(i, behind)
				}
			}
		}
	}
}

func anyBadRing(rels []told) bool {
	bad := false
	for i, r := range rels {
		hangs(r, rels, func(on int, against bool) {
			bad = bad || against && comesTo(on, i, rels, make([]bool, len(rels)))
		})
	}
	return bad
}

func comesTo(from, to int, rels []told, seen []bool) bool {
	if from == to {
		return true
	}
	seen[from] = true
	found := false
	hangs(rels[from], rels, func(on int, _ bool) {
		found = found || !seen[on] && comesTo(on, to, rels, seen)
	})
	return found
}

// randomSchema is most often right line by line, and sometimes has a wrong byte or a wrong name in it.
func randomSchema(random *rand.Rand) string {
	known := strings.Split("abcdefg", "")[:1+random.Intn(4)+random.Intn(2)*random.Intn(4)]
	asked := known
	if random.Intn(10) == 0 {
		asked = append(known[:len(known):len(known)], "x")
	}
	var l []string
	for i := range 1 + random.Intn(3) + random.Intn(2)*random.Intn(5) {
		l = append(l, "type "+randomName(random, i))
		for _, j := range random.Perm(len(known)) {
			said := randomWord(random, "rel", "rel", "set") + " " + known[j]
			l = append(l, said+" "+randomExpression(random, asked, 2))
		}
		if random.Intn(6) == 0 {
			l = append(l, randomWord(random, "", "//", "// rel", "rel a self"))
		}
	}
	text := strings.Join(l, "\n")
	if random.Intn(8) == 0 {
		text = changed(text, "ab self|&-().:\n/", random.Intn)
	}
	return text
}

func randomWord(random *rand.Rand, l ...string) string { return l[random.Intn(len(l))] }

// randomName is nearly always another one for another number.
func randomName(random *rand.Rand, number int) string {
	if random.Intn(50) == 0 {
		return "a"
	}
	return strings.Repeat(string(rune('a'+number)), 1+random.Intn(8))
}

func randomExpression(random *rand.Rand, l []string, depth int) string {
	mark := randomWord(random, "", "", "|", "|", "&", "&", "-")
	terms := []string{randomTerm(random, l, depth)}
	for i := 0; mark != "" && i < 1+random.Intn(2); i++ {
		terms = append(terms, randomTerm(random, l, depth))
		if mark == "-" && random.Intn(50) > 0 {
			break
		}
	}
	return strings.Join(terms, " "+mark+" ")
}

func randomTerm(random *rand.Rand, l []string, depth int) string {
	switch random.Intn(6) {
	case 0, 1:
		if depth > 0 {
			return "( " + randomExpression(random, l, depth-1) + " )"
		}
		return "self"
	case 2:
		return "self"
	case 3:
		return randomWord(random, l...) + "." + randomWord(random, l...)
	}
	return randomWord(random, l...)
}
