package lex

import (
	"fmt"
	"regexp"
	"strings"

	"inkling/api"
)

// What stands here goes by the document's words alone, and looks for every way to cut a text: a measure for what the package answers.

// kindWords are the kinds as the chapter's examples write them.
var kindWords = map[api.TokenKind]string{
	api.TokName: "name", api.TokVariable: "variable", api.TokNumber: "number", api.TokString: "string",
	api.TokInput: "input", api.TokOutput: "output", api.TokNot: "not",
	api.TokOpen: "(", api.TokClose: ")", api.TokComma: ",", api.TokDot: ".", api.TokSlash: "/", api.TokRule: ":-", api.TokUnlike: "!=",
}

// answer is what Tokens answers.
type answer struct {
	list []api.Token
	open api.Token
	far  int
	e    api.Errno
}

func answerOf(text string) answer {
	list, open, far, e := Tokens(text)
	return answer{list, open, far, e}
}

// String tells all of it, places too.
func (a answer) String() string {
	return fmt.Sprintf("%s; open %s; %d; %v", sayPlaces(a.list), sayPlaces([]api.Token{a.open}), a.far, a.e)
}

func sayPlaces(list []api.Token) string {
	var l []string
	for _, x := range list {
		l = append(l, fmt.Sprintf("%s at %d to %d", say([]api.Token{x}), x.At, x.End))
	}
	return strings.Join(l, ", ")
}

// say tells kinds and texts.
func say(list []api.Token) string {
	var l []string
	for _, x := range list {
		switch x.Kind {
		case api.TokName, api.TokVariable, api.TokNumber, api.TokString:
			l = append(l, kindWords[x.Kind]+" "+x.Text)
		default:
			l = append(l, kindWords[x.Kind]+x.Text)
		}
	}
	return strings.Join(l, ", ")
}

var (
	plainName     = regexp.MustCompile(`^[a-z][a-zA-Z0-9_]{0,63}$`)
	plainVariable = regexp.MustCompile(`^[A-Z][a-zA-Z0-9_]{0,63}$`)
	plainNumber   = regexp.MustCompile(`^[0-9]{1,64}$`)
	plainPiece    = regexp.MustCompile(`[ !#-\[\]-~]|\\["\\nt]|\\x[0-9a-f][0-9a-f]`)
	plainString   = regexp.MustCompile(`^"(?:` + plainPiece.String() + `)*"$`)
	plainBegun    = regexp.MustCompile(`^(?:[a-zA-Z][a-zA-Z0-9_]*|[0-9]+|"(?:` + plainPiece.String() + `)*(?:"|\\(?:x[0-9a-f]?)?)?|[(),./]|:-?|!=?)$`)
)

// byRunes makes each byte a rune of its own, since patterns go by runes.
func byRunes(text string) string {
	runes := make([]rune, len(text))
	for i := range len(text) {
		runes[i] = rune(text[i])
	}
	return string(runes)
}

// plainToken says which token a whole text is: its kind and its Text; of no kind, if it is none.
func plainToken(text string) (api.TokenKind, string) {
	for kind, word := range kindWords {
		if kind >= api.TokInput && word == text {
			return kind, ""
		}
	}
	runes := byRunes(text)
	switch {
	case plainName.MatchString(runes):
		return api.TokName, text
	case plainVariable.MatchString(runes):
		return api.TokVariable, text
	case plainNumber.MatchString(runes):
		return api.TokNumber, text
	case plainString.MatchString(runes):
		return plainConstant(text[1 : len(text)-1])
	}
	return 0, ""
}

// plainConstant is of what stands between a string's marks.
func plainConstant(inner string) (api.TokenKind, string) {
	pieces := plainPiece.FindAllString(inner, -1)
	if len(pieces) > 1024 {
		return 0, ""
	}
	var constant []byte
	for _, piece := range pieces {
		switch {
		case len(piece) == 1:
			constant = append(constant, piece[0])
		case len(piece) == 4:
			var b byte
			fmt.Sscanf(piece[2:], "%02x", &b)
			constant = append(constant, b)
		case piece == `\n`:
			constant = append(constant, 10)
		case piece == `\t`:
			constant = append(constant, 9)
		default:
			constant = append(constant, piece[1])
		}
	}
	return api.TokString, string(constant)
}

// found is which token a text is, and whether a longer one may be any.
type found struct {
	kind  api.TokenKind
	text  string
	begun bool
}

// foundTokens keeps what texts are that were asked for: the same ones are, over and over.
var foundTokens = map[string]found{}

func plainTokenOf(text string) found {
	f, there := foundTokens[text]
	if !there {
		f.kind, f.text = plainToken(text)
		f.begun = plainBegun.MatchString(byRunes(text))
		if len(foundTokens) > 100000 {
			clear(foundTokens)
		}
		foundTokens[strings.Clone(text)] = f
	}
	return f
}

// plainRows are all ways to cut a whole text into tokens and blanks.
func plainRows(text string) [][]api.Token {
	var all [][]api.Token
	var cut func(at int, behindWord bool, tokens []api.Token)
	cut = func(at int, behindWord bool, tokens []api.Token) {
		if at == len(text) {
			all = append(all, append([]api.Token(nil), tokens...))
			return
		}
		switch text[at] {
		case 32, 9, 10, 13:
			cut(at+1, false, tokens)
		case '%':
			end := at
			for end < len(text) && text[end] != 10 {
				end++
			}
			cut(end, false, tokens)
		}
		for end := at + 1; end <= len(text); end++ {
			f := plainTokenOf(text[at:end])
			if !f.begun {
				break
			}
			isWord := f.kind != 0 && f.kind <= api.TokNot && f.kind != api.TokString
			if f.kind == 0 || isWord && behindWord {
				continue
			}
			cut(end, isWord, append(tokens[:len(tokens):len(tokens)], api.Token{Kind: f.kind, Text: f.text, At: at, End: end}))
		}
	}
	cut(0, false, nil)
	return all
}

// completions make a row of every text that some text makes one: of a row; within a string, behind a backslash, behind \x, behind a digit; behind : and !.
var completions = []string{"", `"`, `""`, `00"`, `0"`, "-", "="}

// plainBeginning tells whether a text is a beginning of a row, its tokens that are whole and what is open.
func plainBeginning(text string) ([]api.Token, api.Token, bool) {
	for _, more := range completions {
		rows := plainRows(text + more)
		if len(rows) > 1 {
			panic(fmt.Sprintf("%q can be cut in several ways", text+more))
		}
		if len(rows) == 0 {
			continue
		}
		if more == "" {
			return rows[0], api.Token{}, true
		}
		last := len(rows[0]) - 1
		open := rows[0][last]
		return rows[0][:last], api.Token{Kind: open.Kind, At: open.At, End: len(text)}, true
	}
	return nil, api.Token{}, false
}

// plainAnswer is what P7.1 asks for.
func plainAnswer(text string) answer {
	for far := len(text); ; far-- {
		list, open, ok := plainBeginning(text[:far])
		if !ok {
			continue
		}
		if far == len(text) && open.Kind == 0 {
			return answer{list, open, far, api.OK}
		}
		return answer{list, open, far, api.ErrSyntax}
	}
}
