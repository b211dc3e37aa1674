package facts

import (
	"math"
	"slices"
	"strings"
	"testing"

	"inkling/api"
)

// The chapter's examples.
func TestExamples(t *testing.T) {
	wantEscape(t, "a\tb\n\\", `a\tb\n\\`)
	wantEscape(t, "", "")

	wantNoField(t, `a\q`, 2)
	wantNoField(t, `a\`, 2)
	wantNoField(t, "a\t", 1)
	wantNoField(t, times(1025, "x"), 1024)

	wantLine(t, "a\t\tb", "a", "", "b")
	wantLine(t, "")
	wantLineError(t, make([]string, 17), api.ErrArg)

	wantSplit(t, "a\t\tb", "a", "", "b")
	wantSplit(t, "", "")
	wantNoLine(t, "a\\\tb", 2)

	wantRead(t, "a\tb\nc\td", 2, list("a b", "c d"))
	wantReadError(t, "a\tb\nc", 2, 4, api.ErrArity)
	wantReadError(t, "a\tb\n\n", 2, 4, api.ErrArity)
	wantReadError(t, "a\t\\q\nc", 1, 3, api.ErrSyntax)
	wantRead(t, "\n\n", 0, list("", ""))
	wantRead(t, "\n\n", 1, list("-", "-"))
	wantRead(t, "", 3, nil)
	wantReadError(t, "x\n", 0, 0, api.ErrArity)

	wantWrite(t, list("a b", "c d"), 2, "a\tb\nc\td\n")
	wantWrite(t, list(""), 0, "\n")
	wantRefused(t, list("a"), 2, api.ErrArg)
	wantRefused(t, nil, 17, api.ErrArg)

	wantRelation(t, "p", 1, list("b", "a", "b"), list("a", "b"))
}

// P10.1

// special tells the letter behind the backslash of a byte that does not stand for itself, 0 of all others.
func special(b int) byte {
	switch b {
	case 9:
		return 't'
	case 10:
		return 'n'
	case 92:
		return '\\'
	}
	return 0
}

func TestEveryByteAsAField(t *testing.T) {
	for b := range 256 {
		one := string([]byte{byte(b)})
		field := one
		if letter := special(b); letter != 0 {
			field = "\\" + string(letter)
		}
		wantEscape(t, one, field)
		wantEscape(t, "a"+one+one+"b", "a"+field+field+"b")
		wantEscape(t, one+"\\", field+`\\`)
		wantEscape(t, "\\"+one, `\\`+field)
		wantEscape(t, times(1024, one), times(1024, field))
		wantNoField(t, times(1025, field), 1024*len(field))
		wantNoConstant(t, times(1025, one))
	}
}

func TestEveryByteBehindABackslash(t *testing.T) {
	for b := range 256 {
		one := string([]byte{byte(b)})
		switch b {
		case 't', 'n', '\\':
			wantUnescape(t, `a\`+one+"c", plainUnescape(`a\`+one+"c"))
			wantSplit(t, `\`+one, plainUnescape(`\`+one))
		default:
			for _, ahead := range []string{"", "a", `\\`, `\t`, times(1023, "x")} {
				wantNoField(t, ahead+`\`+one, len(ahead)+1)
				wantNoLine(t, ahead+`\`+one+"\t", len(ahead)+1)
				wantNoLine(t, "b\t"+ahead+`\`+one, len(ahead)+3)
			}
		}
	}
}

func TestFieldsWithBytesNineAndTen(t *testing.T) {
	wantNoField(t, "\t", 0)
	wantNoField(t, "\n", 0)
	wantNoField(t, "ab\tc\n", 2)
	wantNoField(t, "ab\nc\t", 2)
	wantNoField(t, "a\n", 1)
	wantNoField(t, "\\\t", 1)
	wantNoField(t, "\\\n", 1)
	wantNoField(t, `a\\`+"\t", 3)
	wantNoField(t, `a\q`+"\t", 2)
	wantNoField(t, "a\t"+`\q`, 1)
	wantNoField(t, "a\n"+`\q`, 1)
	wantNoField(t, times(1024, "x")+"\t", 1024)
	wantNoField(t, times(1024, "x")+"\n", 1024)
	wantNoField(t, times(1025, "x")+"\t", 1024)
	wantNoField(t, "a\t"+times(1025, "x"), 1)
	wantNoField(t, times(600, "x")+"\t"+times(600, "x"), 600)
}

// Of several that apply at the bound the first byte with which no field goes on is told: a backslash can't stand behind 1024 bytes, whatever comes behind it.
func TestFieldsAtTheBound(t *testing.T) {
	full := times(1024, "x")
	for _, behind := range []string{"x", "\x00", "\xff", `\t`, `\n`, `\\`, `\q`, `\`, `\` + "\t", "xx", "x\\"} {
		wantNoField(t, full+behind, 1024)
		wantWrong(t, full+behind, 1024)
		wantWrong(t, times(1024, `\n`)+behind, 2048)
		wantWrong(t, full+"\t\t"+full+behind, 2050)
	}
	almost := times(1023, "x")
	wantNoField(t, almost+`\`, 1024)
	wantNoField(t, almost+`\q`, 1024)
	wantWrong(t, almost+`\`, 1024)
	wantWrong(t, almost+`\q`, 1024)
	wantUnescape(t, almost+`\t`, almost+"\t")
	wantUnescape(t, full, full)
	wantNoField(t, almost+`\tx`, 1025)
	wantNoField(t, almost+`\t\`, 1025)
	// Bytes count, not runes.
	wantEscape(t, times(512, "é"), times(512, "é"))
	wantNoField(t, times(512, "é")+"é", 1024)
	wantNoField(t, "x"+times(512, "é"), 1024)
}

func TestEscapeOfLongTexts(t *testing.T) {
	for _, one := range []string{"x", "\t", "\n", "\\", "\x00", "\xff"} {
		for _, count := range []int{1, 1023, 1024} {
			wantEscape(t, times(count, one), times(count, plainEscape(one)))
		}
		for _, count := range []int{1025, 1026, 2048, 1 << 20} {
			wantNoConstant(t, times(count, one))
		}
	}
}

// P10.2

func TestNumbersOfConstantsInALine(t *testing.T) {
	for count := range 40 {
		for _, constant := range []string{"", "a", "\t", "\\", times(1024, "\n")} {
			tuple := slices.Repeat([]string{constant}, count)
			if count <= 16 {
				wantLine(t, plainOfLine(tuple), tuple...)
			} else {
				wantLineError(t, tuple, api.ErrArg)
			}
		}
	}
	wantLineError(t, make([]string, 1<<20), api.ErrArg)
	for _, none := range [][]string{nil, {}} {
		if line, e := Line(none...); line != "" || e != api.OK {
			t.Errorf("Line() is %q, %v", line, e)
		}
	}
}

func TestALineOfTooManyThatAreTooLong(t *testing.T) {
	long := times(1025, "x")
	wantLineError(t, slices.Repeat([]string{long}, 17), api.ErrArg)
	wantLineError(t, append(make([]string, 16), long), api.ErrArg)
	for at := range 16 {
		tuple := make([]string, 16)
		tuple[at] = long
		wantLineError(t, tuple, api.ErrLong)
	}
}

func TestSplitOfFields(t *testing.T) {
	wantSplit(t, "\t", "", "")
	wantSplit(t, "\t\t\t", "", "", "", "")
	wantSplit(t, "a\t", "a", "")
	wantSplit(t, "\ta", "", "a")
	wantSplit(t, `\t`+"\t"+`\t`, "\t", "\t")
	wantSplit(t, `\\t`, `\t`)
	wantSplit(t, `\\`+"\t"+`\\\\`, `\`, `\\`)
	wantSplit(t, `\\\t\\n`, "\\\t\\n")
	wantSplit(t, " a \t\r", " a ", "\r")
	wantSplit(t, "é\xff\x00\t\"", "é\xff\x00", "\"")
	wantSplit(t, times(1024, "x")+"\t"+times(1024, `\\`), times(1024, "x"), times(1024, `\`))
}

// A written line may have more fields than an atom has terms.
func TestSplitOfManyFields(t *testing.T) {
	for _, count := range []int{16, 17, 100, 100000} {
		constants := slices.Repeat([]string{"a\\"}, count)
		wantSplit(t, plainOfLine(constants), constants...)
		wantSplit(t, times(count-1, "\t"), make([]string, count)...)
	}
}

func TestSplitOfNoLines(t *testing.T) {
	wantNoLine(t, "\n", 0)
	wantNoLine(t, "a\n", 1)
	wantNoLine(t, "a\tb\nc\td", 3)
	wantNoLine(t, "a\n"+`\q`, 1)
	wantNoLine(t, `\q`+"\n", 1)
	wantNoLine(t, "a\\\n", 2)
	wantNoLine(t, times(1024, "x")+"\n", 1024)
	wantNoLine(t, times(1025, "x")+"\n", 1024)
	wantNoLine(t, times(1024, "x")+"\t\n", 1025)
	wantWrong(t, `\`, 1)
	wantWrong(t, `\\\`, 3)
	wantWrong(t, `\`+"\t", 1)
	wantWrong(t, "\t"+`\`, 2)
	wantWrong(t, `a\`+"\tb", 2)
	wantWrong(t, `a\T`, 2)
	wantWrong(t, `a\x41`, 2)
	wantWrong(t, `a\q\q`, 2)
	wantWrong(t, "a\t"+times(1025, "x"), 1026)
	wantWrong(t, times(1025, "x")+"\t"+`\q`, 1024)
}

// The bound is one of each field, not of a line.
func TestLongLines(t *testing.T) {
	full := times(1024, "x")
	var constants []string
	line := ""
	for range 40 {
		constants = append(constants, full)
		line = plainOfLine(constants)
		wantSplit(t, line, constants...)
	}
	wantWrong(t, line+"x", len(line))
	wantWrong(t, line+"\t"+`\`, len(line)+2)
}

// P10.3

func TestScanOfWrittenTexts(t *testing.T) {
	for _, text := range []string{
		"", "\n", "\n\n\n", "a", "a\n", "\na", "a\tb\nc", "\t", "\t\n\t\t", `\\`, `\t` + "\n" + `\n`, "\r\n", "é\n\xff\x00",
		times(1024, "x") + "\n" + times(1024, `\\`), times(1000, times(1000, "x")+"\n"), times(20, "a\t") + "\n",
	} {
		wantScan(t, text, -1)
	}
}

func TestScanTellsTheFirstThatIsWrong(t *testing.T) {
	wantScan(t, `\`, 1)
	wantScan(t, "\\\n", 1)
	wantScan(t, "a\n\\\n", 3)
	wantScan(t, "a\n\\\n\\", 3)
	wantScan(t, "a\\\nb", 2)
	wantScan(t, "a\\\nn", 2)
	wantScan(t, "\\\nt", 1)
	wantScan(t, `\q`+"\n"+`\q`, 1)
	wantScan(t, "\n\n"+`a\q`, 4)
	wantScan(t, "a\n"+times(1025, "x")+"\n"+`\q`, 1026)
	wantScan(t, times(1024, "x")+"\n"+times(1025, "x"), 2049)
	wantScan(t, times(1000, "a\tb\n")+`\`, 4001)
	// A line's end is where it ends, not where the text does.
	wantScan(t, "ab\\\n\n\n", 3)
}

// P10.4

func TestReadInEveryArity(t *testing.T) {
	for arity := range 17 {
		tuple := slices.Repeat([]string{"\\a"}, arity)
		line := plainOfLine(tuple)
		for count := range 4 {
			tuples := slices.Repeat([][]string{tuple}, count)
			text := times(count, line+"\n")
			wantRead(t, text, arity, tuples)
			if arity > 0 {
				wantRead(t, text+line, arity, append(tuples, tuple))
			}
			for other := range 17 {
				// An empty line is a tuple's of arity 0 and of arity 1.
				if count > 0 && other != arity && (arity > 0 || other > 1) {
					wantReadError(t, text, other, 0, api.ErrArity)
				}
			}
		}
	}
}

func TestReadOfArities(t *testing.T) {
	for _, arity := range []int{-1, 17, -16, 18, 1 << 16, -1 << 16, 256, 1 << 32, math.MaxInt, math.MinInt} {
		for _, text := range []string{"", "\n", "a\tb\n", `\q`, times(16, "\t"), times(arity&31, "\t")} {
			wantReadError(t, text, arity, -1, api.ErrArg)
		}
	}
	wantRead(t, "", 0, nil)
	wantRead(t, "", 16, nil)
	wantRead(t, times(15, "\t"), 16, [][]string{make([]string, 16)})
	wantReadError(t, times(16, "\t"), 16, 0, api.ErrArity)
}

func TestReadOfEmptyLines(t *testing.T) {
	wantRead(t, "\n", 0, list(""))
	wantRead(t, "\n", 1, list("-"))
	wantReadError(t, "\n", 2, 0, api.ErrArity)
	wantRead(t, "a\n\nb\n", 1, list("a", "-", "b"))
	wantRead(t, "a\n\n", 1, list("a", "-"))
	wantReadError(t, "a\tb\n\na\tb", 2, 4, api.ErrArity)
	wantReadError(t, "\t\n\n", 2, 2, api.ErrArity)
	wantRead(t, "\t\n\t", 2, list("- -", "- -"))
	wantReadError(t, "\n\t\n", 0, 1, api.ErrArity)
	wantReadError(t, "\n\n\n ", 0, 3, api.ErrArity)
}

func TestReadTellsTheFirstLineThatDoesNotFit(t *testing.T) {
	wantReadError(t, "a\nb\tc\nd\te", 1, 2, api.ErrArity)
	wantReadError(t, "a\tb\nc\td\te\nf", 2, 4, api.ErrArity)
	wantReadError(t, "a\tb\n"+`c\td`, 2, 4, api.ErrArity)
	wantReadError(t, "abc\n\\\\\tx\n", 1, 4, api.ErrArity)
	wantReadError(t, times(17, "\t")+"\n", 1, 0, api.ErrArity)
}

// What is wrong in a late line goes ahead of an early one that does not fit.
func TestReadTellsWhatIsWrongAhead(t *testing.T) {
	wantReadError(t, "a\nb\tc\n"+`\q`, 1, 7, api.ErrSyntax)
	wantReadError(t, "a\n"+`b\`, 2, 4, api.ErrSyntax)
	wantReadError(t, "x\n"+times(1025, "x"), 0, 1026, api.ErrSyntax)
	wantReadError(t, "a\t\\q", 1, 3, api.ErrSyntax)
	wantReadError(t, `\q`, 17, -1, api.ErrArg)
}

func TestReadKeepsOrderAndDoubles(t *testing.T) {
	wantRead(t, "b\na\nb\n\na", 1, list("b", "a", "b", "-", "a"))
	wantRead(t, "b\tb\na\tc\nb\tb", 2, list("b b", "a c", "b b"))
}

// P10.5

func TestWrite(t *testing.T) {
	wantWrite(t, nil, 0, "")
	wantWrite(t, [][]string{}, 16, "")
	wantWrite(t, list("", "", ""), 0, "\n\n\n")
	wantWrite(t, [][]string{nil, {}, nil}, 0, "\n\n\n")
	wantWrite(t, list("-", "a", "-"), 1, "\na\n\n")
	wantWrite(t, list("b a", "a b", "b a"), 2, "b\ta\na\tb\nb\ta\n")
	wantWrite(t, [][]string{{"\t", "\n"}, {"\\", ""}}, 2, `\t`+"\t"+`\n`+"\n"+`\\`+"\t\n")
}

func TestWriteAndRelationOfArities(t *testing.T) {
	for _, arity := range []int{-1, 17, math.MaxInt, math.MinInt, 1 << 32} {
		for _, tuples := range [][][]string{nil, {}, {nil}, {{}}, list("a"), {make([]string, 17)}, {{times(1025, "x")}}} {
			wantRefused(t, tuples, arity, api.ErrArg)
		}
	}
	for arity := range 17 {
		for length := range 18 {
			tuple := make([]string, length)
			if length == arity {
				wantWrite(t, [][]string{tuple}, arity, times(max(arity-1, 0), "\t")+"\n")
				wantRelation(t, "p", arity, [][]string{tuple}, [][]string{tuple})
				continue
			}
			fits := make([]string, arity)
			wantRefused(t, [][]string{tuple}, arity, api.ErrArg)
			wantRefused(t, [][]string{fits, fits, tuple}, arity, api.ErrArg)
			wantRefused(t, [][]string{tuple, fits}, arity, api.ErrArg)
		}
	}
}

// A tuple that does not fit goes ahead of a constant that is too long, wherever the two stand.
func TestWriteAndRelationOfLongTexts(t *testing.T) {
	long, full := times(1025, "x"), times(1024, "\\")
	wantRefused(t, [][]string{{long}}, 1, api.ErrLong)
	wantRefused(t, [][]string{{"a"}, {full}, {long}}, 1, api.ErrLong)
	wantRefused(t, [][]string{{"a", "b"}, {"a", long}, {"c", "d"}}, 2, api.ErrLong)
	wantRefused(t, [][]string{{long}, {"a", "b"}}, 1, api.ErrArg)
	wantRefused(t, [][]string{{"a", "b"}, {long}}, 1, api.ErrArg)
	wantRefused(t, [][]string{{long}, nil}, 1, api.ErrArg)
	wantRefused(t, [][]string{{long}}, 0, api.ErrArg)
	wantRefused(t, [][]string{{long}}, 17, api.ErrArg)
	wantWrite(t, [][]string{{full}}, 1, times(2048, "\\")+"\n")
	wantRelation(t, "p", 1, [][]string{{full}, {"a"}}, [][]string{{full}, {"a"}})
}

// P10.6

func TestRelation(t *testing.T) {
	wantRelation(t, "p", 3, nil, nil)
	wantRelation(t, "p", 0, nil, nil)
	wantRelation(t, "p", 0, list(""), list(""))
	wantRelation(t, "p", 0, [][]string{{}, nil, {}}, list(""))
	wantRelation(t, "p", 1, list("b", "-", "ab", "a", "b", "-"), list("-", "a", "ab", "b"))
	wantRelation(t, "p", 2, list("b a", "a b", "b -", "a b", "ab a", "a bb"), list("a b", "a bb", "ab a", "b -", "b a"))
	wantRelation(t, "p", 3, list("a b c", "a a d", "a b b"), list("a a d", "a b b", "a b c"))
}

// Bytes tell what comes first: not numbers, not letters of a language, not fields.
func TestRelationsRiseByBytes(t *testing.T) {
	rising := [][]string{{""}, {"\x00"}, {"\t"}, {"\n"}, {" "}, {"!"}, {"10"}, {"9"}, {"B"}, {"\\"}, {"a"}, {"a\x00"}, {"a\t"}, {"aa"}, {"b"}, {"z"}, {"\x80"}, {"é"}, {"\xff"}}
	turned := slices.Clone(rising)
	slices.Reverse(turned)
	wantRelation(t, "p", 1, turned, rising)
	wantRelation(t, "p", 1, append(turned, rising...), rising)
}

// Tuples are told apart by their constants, not by the bytes of all of them.
func TestTuplesOfTheSameBytes(t *testing.T) {
	wantRelation(t, "p", 2, list("ab -", "a b", "- ab"), list("- ab", "a b", "ab -"))
	wantRelation(t, "p", 2, [][]string{{"a\tb", ""}, {"a", "\tb"}, {"a\\", "tb"}}, [][]string{{"a", "\tb"}, {"a\tb", ""}, {"a\\", "tb"}})
}

func TestRelationTakesAnyName(t *testing.T) {
	for _, pred := range []string{"", "p", "P", "not", "1", "a b", "\n", "\xff", times(65, "p"), times(2000, "p")} {
		wantRelation(t, pred, 1, list("b", "a"), list("a", "b"))
		if got, e := Relation(pred, 17, nil); got.Pred != "" || e != api.ErrArg {
			t.Errorf("Relation(%q, 17) is %q, %v", short(pred), short(got.Pred), e)
		}
	}
}

func TestRelationOfEveryOrder(t *testing.T) {
	rising := list("- a", "a -", "a b", "b a")
	var turn func(rest, ahead [][]string)
	turn = func(rest, ahead [][]string) {
		if len(rest) == 0 {
			wantRelation(t, "p", 2, ahead, rising)
			wantRelation(t, "p", 2, append(slices.Clone(ahead), ahead[1:3]...), rising)
		}
		for i := range rest {
			turn(slices.Concat(rest[:i], rest[i+1:]), append(slices.Clone(ahead), rest[i]))
		}
	}
	turn(rising, nil)
}

// Nothing of how great a file is, is a bound.
func TestGreatFiles(t *testing.T) {
	const count = 300000
	tuples := make([][]string, count)
	var text strings.Builder
	for i := range tuples {
		tuples[i] = []string{string(rune('a' + i%7)), "x\ty"}
		text.WriteString(tuples[i][0] + "\tx\\ty\n")
	}
	wantWrite(t, tuples, 2, text.String())
	wantRelation(t, "p", 2, tuples, plainRising(tuples[:7]))
	wantReadError(t, text.String()+"a", 2, text.Len(), api.ErrArity)
	wantScan(t, text.String()+"a\\", text.Len()+2)
	wantRead(t, times(count, "\n"), 0, make([][]string, count))
}
