package query_test

import (
	"math/rand/v2"
	"regexp"
	"testing"

	"hedgelayer/api"
	"hedgelayer/query"
)

// language is two regular expressions: of strings, and of all that such strings begin with.
type language struct{ whole, begin string }

// bytesOf are strings of one byte of a class.
func bytesOf(class string) language { return language{class, "(?:" + class + ")?"} }

func sequence(list ...language) language {
	all := language{"", ""}
	for _, l := range list {
		all = language{all.whole + l.whole, "(?:" + all.begin + "|" + all.whole + l.begin + ")"}
	}
	return all
}

func oneOf(list ...language) language {
	all := list[0]
	for _, l := range list[1:] {
		all = language{all.whole + "|" + l.whole, all.begin + "|" + l.begin}
	}
	return language{"(?:" + all.whole + ")", "(?:" + all.begin + ")"}
}

// repeated are any number of strings, at least so many.
func repeated(least int, l language) language {
	sign := []string{"*", "+"}[least]
	return language{"(?:" + l.whole + ")" + sign, "(?:" + l.whole + ")*" + l.begin}
}

func maybe(l language) language { return language{"(?:" + l.whole + ")?", l.begin} }

func word(s string) language {
	var list []language
	for i := range len(s) {
		list = append(list, bytesOf(regexp.QuoteMeta(s[i:i+1])))
	}
	return sequence(list...)
}

// queries are the texts of queries of a depth, where any number of ! and ^ adds no depth.
func queries(depth int) language {
	name := sequence(bytesOf("[a-z]"), repeated(0, bytesOf("[a-z0-9_]")))
	hidden := oneOf(sequence(bytesOf("[0189a-f]"), bytesOf("[0-9a-f]")), word("22"), word("5c"), word("7f"))
	char := oneOf(bytesOf(`[ !#-\[\]-~]`), sequence(word(`\`), hidden))
	filled := sequence(word(`"`), repeated(1, char), word(`"`))
	more := sequence(word(","), filled)
	bare := oneOf(word("_"), sequence(name, maybe(oneOf(sequence(filled, maybe(more)), sequence(word(`""`), more)))))
	number := oneOf(word("0"), sequence(bytesOf("[1-9]"), language{"[0-9]{0,8}", "[0-9]{0,8}"}))
	others := oneOf(word("\x00"))
	if depth > 0 {
		inner := queries(depth - 1)
		node := sequence(word("("), number, repeated(0, sequence(word(" "), inner)), word(")"))
		bare = oneOf(bare, node)
		others = sequence(word("{"), inner, word(" | "), inner, word("}"))
	}
	return sequence(repeated(0, bytesOf("[!^]")), oneOf(sequence(maybe(sequence(name, word("@"))), bare), others))
}

// P8.7: the offset of an error is the least one so that no text of a query begins so.
func TestRandomSyntax(t *testing.T) {
	all := queries(4)
	accepts, goesOn := regexp.MustCompile("^(?:"+all.whole+")$"), regexp.MustCompile("^(?:"+all.begin+")$")
	right := 0
	each(t, 9, 4_000, func(r *rand.Rand, g api.Grammar, x api.Tree) {
		s, _ := query.Text(about(r, g, x, 2))
		if len(s) > 60 {
			return
		}
		for range r.IntN(3) {
			at := r.IntN(len(s) + 1)
			to := min(len(s), at+r.IntN(3))
			s = s[:at] + pick(r, "", "", "\"", "\"\"", "\\", "(", ")", " ", "a", "0", "1", "4", "22", "\n", "A", "@", ",", "{", "|", "}", "!", "^", "_", "\"x\"", ",\"x\"", "x@") + s[to:]
		}
		_, at, err := query.Read(s)
		if err != api.ErrSyntax {
			right++
			is(t, []any{s, accepts.MatchString(s)}, []any{s, true})
			return
		}
		if !goesOn.MatchString(s[:at]) || at < len(s) && goesOn.MatchString(s[:at+1]) || accepts.MatchString(s) {
			t.Errorf("%q: the offset is %d", s, at)
		}
	})
	if right < 300 {
		t.Errorf("only %d texts are right", right)
	}
}
