package parse

import (
	"fmt"
	"math/rand"
	"strconv"
	"strings"

	"inkling/api"
)

// drawn is a program that was drawn, with a text that says it, and where its tokens begin there.
type drawn struct {
	r       *rand.Rand
	text    strings.Builder
	tokens  []int
	word    bool // a word stands right ahead
	program api.Program
	places  api.Places
}

func drawProgram(r *rand.Rand, statements int) *drawn {
	d := &drawn{r: r}
	d.blanks()
	for range statements {
		switch r.Intn(4) {
		case 0:
			d.places.Inputs = append(d.places.Inputs, d.putWord("input"))
			input := api.Input{Pred: d.name()}
			d.sign("/")
			input.Arity = d.arity()
			input.File = d.quoted()
			d.program.Inputs = append(d.program.Inputs, input)
		case 1:
			d.places.Outputs = append(d.places.Outputs, d.putWord("output"))
			output := api.Output{Pred: d.name()}
			d.sign("/")
			output.Arity = d.arity()
			d.program.Outputs = append(d.program.Outputs, output)
		default:
			first := len(d.tokens)
			rule := d.rule()
			d.places.Rules = append(d.places.Rules, d.tokens[first])
			d.program.Rules = append(d.program.Rules, rule)
		}
		d.sign(".")
	}
	return d
}

// blanks lays none, or some.
func (d *drawn) blanks() {
	for d.r.Intn(3) == 0 {
		some := []string{" ", "\t", "\n", "\r", "  ", "%\n", "% p(X) :- \"\n", "%%\xff;\r\n"}
		d.text.WriteString(some[d.r.Intn(len(some))])
		d.word = false
	}
}

func (d *drawn) put(bytes string, word bool) int {
	d.blanks()
	if d.word && word {
		d.text.WriteByte(' ')
	}
	at := d.text.Len()
	d.tokens = append(d.tokens, at)
	d.text.WriteString(bytes)
	d.word = word
	return at
}

func (d *drawn) sign(bytes string) { d.put(bytes, false) }

func (d *drawn) putWord(bytes string) int { return d.put(bytes, true) }

func (d *drawn) drawWord(first, more string) string {
	length := d.r.Intn(3)
	if d.r.Intn(30) == 0 {
		length = 63
	}
	word := first[d.r.Intn(len(first)):][:1]
	for range length {
		word += more[d.r.Intn(len(more)):][:1]
	}
	return word
}

func (d *drawn) name() string {
	name := d.drawWord(small, inWord)
	if d.r.Intn(5) == 0 {
		name = []string{"nota", "inputs", "outputs", "not_", "input1", "outpu", "no"}[d.r.Intn(7)]
	}
	if name == "not" || name == "input" || name == "output" {
		name += "s"
	}
	d.putWord(name)
	return name
}

func (d *drawn) arity() int {
	n := d.r.Intn(17)
	d.putWord(strconv.Itoa(n))
	return n
}

// quoted lays a string, each of its bytes in one of the ways in which it may stand.
func (d *drawn) quoted() string {
	length := d.r.Intn(5)
	if d.r.Intn(30) == 0 {
		length = 1024
	}
	constant := make([]byte, length)
	text := `"`
	for i := range constant {
		b := byte(d.r.Intn(256))
		constant[i] = b
		plain := b >= 32 && b <= 126 && b != '"' && b != '\\'
		short := map[byte]string{'"': `\"`, '\\': `\\`, 10: `\n`, 9: `\t`}[b]
		switch {
		case plain && d.r.Intn(4) > 0:
			text += string([]byte{b})
		case short != "" && d.r.Intn(2) == 0:
			text += short
		default:
			text += fmt.Sprintf(`\x%02x`, b)
		}
	}
	d.put(text+`"`, false)
	return string(constant)
}

func (d *drawn) term() api.Term {
	switch d.r.Intn(4) {
	case 0:
		text := d.drawWord(great, inWord)
		d.putWord(text)
		return api.Term{Var: true, Text: text}
	case 1:
		return api.Term{Text: d.name()}
	case 2:
		text := d.drawWord(digit, digit)
		d.putWord(text)
		return api.Term{Text: text}
	}
	return api.Term{Text: d.quoted()}
}

func (d *drawn) atom() api.Atom {
	atom := api.Atom{Pred: d.name()}
	count := d.r.Intn(4)
	if d.r.Intn(20) == 0 {
		count = 16
	}
	for i := range count {
		if i == 0 {
			d.sign("(")
		} else {
			d.sign(",")
		}
		atom.Args = append(atom.Args, d.term())
	}
	if count > 0 {
		d.sign(")")
	}
	return atom
}

func (d *drawn) rule() api.Rule {
	rule := api.Rule{Head: d.atom()}
	for i := range d.r.Intn(5) {
		if i == 0 {
			d.sign(":-")
		} else {
			d.sign(",")
		}
		rule.Body = append(rule.Body, d.literal())
	}
	return rule
}

func (d *drawn) literal() api.Literal {
	switch d.r.Intn(3) {
	case 0:
		return api.Literal{Kind: api.Positive, Atom: d.atom()}
	case 1:
		d.putWord("not")
		return api.Literal{Kind: api.Negative, Atom: d.atom()}
	}
	left := d.term()
	d.sign("!=")
	return api.Literal{Kind: api.Unlike, Left: left, Right: d.term()}
}

// drawText lays pieces of programs behind one another, whole ones and broken ones.
func drawText(r *rand.Rand, count int) string {
	pieces := []string{
		"input", "output", "not", "inputs", "nota", "p", "qR_1", "X", "Y2", "_", "0", "12", "16", "17", "007",
		`"`, `"a"`, `"a b\n"`, `\`, `\x4`, "(", ")", ",", ".", "/", ":-", "!=", ":", "-", "!", "=",
		" ", " ", " ", "\t", "\r", "\n", "%", "% a remark\n", ";", "\x00", "\x80",
		"p(", "p :- ", "not q", "X != Y", "input p/1 ", "output p/", "p(a).", "p(X) :- q(X), ", `"f".`, "(X, a)", ", not ",
	}
	var text strings.Builder
	for range count {
		text.WriteString(pieces[r.Intn(len(pieces))])
	}
	return text.String()
}
