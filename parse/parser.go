package parse

import (
	"slices"
	"strings"

	"hedgelayer/api"
	"hedgelayer/table"
)

const (
	theEnd    = "" // what comes behind a word, in the place of a kind
	accepting = -1 // the rule by which a word is accepted
	shifting  = -1 // the rule of a step that is a shift
)

// machine is a grammar with its table.
type machine struct {
	api.Grammar
	states []api.State
}

// newMachine makes the table of a grammar.
func newMachine(g api.Grammar) (machine, api.Errno) {
	states, err := table.Make(g, api.TableFull)
	if err != api.OK {
		return machine{}, err
	}
	return machine{g, states}, api.OK
}

// forWord makes a machine for a word that it can read.
func forWord(g api.Grammar, word []string) (machine, api.Errno) {
	m, err := newMachine(g)
	if err != api.OK {
		return machine{}, err
	}
	if len(word) > api.MaxTokens {
		return machine{}, api.ErrLarge
	}
	return m, m.checkKinds(word)
}

// forTokens makes a machine for tokens that it can read, and returns their kinds, too.
func forTokens(g api.Grammar, l []api.Token) (machine, []string, api.Errno) {
	m, err := newMachine(g)
	if err != api.OK {
		return machine{}, nil, err
	}
	if err := CheckTokens(l); err != api.OK {
		return machine{}, nil, err
	}
	word := make([]string, len(l))
	for i, token := range l {
		word[i] = token.Kind
	}
	return m, word, m.checkKinds(word)
}

func (m machine) checkKinds(word []string) api.Errno {
	for _, kind := range word {
		if _, ok := slices.BinarySearch(m.Kinds, kind); !ok {
			return api.ErrNone
		}
	}
	return api.OK
}

// parser returns a parser that has read nothing. It tells did each of its steps.
func (m machine) parser(did func(s api.Step)) *parser {
	return &parser{machine: m, stack: []int{0}, did: did}
}

// ignore is told steps that nobody asks for.
func ignore(api.Step) {}

// parser has a stack of states, at first state 0 alone.
type parser struct {
	machine
	stack   []int
	reduced int // how many rules it has reduced
	did     func(s api.Step)
}

// fork returns a parser that goes on from here by itself and tells no steps.
func (p *parser) fork() *parser {
	return &parser{p.machine, slices.Clone(p.stack), p.reduced, ignore}
}

// top is the state on top.
func (p *parser) top() api.State { return p.states[p.stack[len(p.stack)-1]] }

// read reads a kind, or the end; false if it is wrong.
func (p *parser) read(ahead string) (bool, api.Errno) {
	for {
		if to, ok := moved(p.top(), ahead); ok {
			p.push(shifting, to)
			return true, api.OK
		}
		rule, ok := reduced(p.top(), ahead)
		if !ok || rule == accepting {
			return ok, api.OK
		}
		if p.reduced == api.MaxNodes {
			return false, api.ErrFull
		}
		p.reduce(rule)
	}
}

// reduce pops the states of the Right of a rule, and pushes that of its Left, for which there always is a move.
func (p *parser) reduce(rule int) {
	r := p.Rules[rule]
	p.reduced++
	p.stack = p.stack[:len(p.stack)-len(r.Right)]
	to, _ := moved(p.top(), r.Left)
	p.push(rule, to)
}

func (p *parser) push(rule, state int) {
	p.stack = append(p.stack, state)
	p.did(api.Step{Rule: rule, State: state})
}

// readAll reads a word, up to the first kind that is wrong, and returns how many it has shifted.
func (p *parser) readAll(word []string) (int, api.Errno) {
	for i, kind := range word {
		ok, err := p.read(kind)
		if err != api.OK {
			return 0, err
		}
		if !ok {
			return i, api.OK
		}
	}
	return len(word), api.OK
}

// readRight reads a word of which no kind may be wrong.
func (p *parser) readRight(word []string) api.Errno {
	count, err := p.readAll(word)
	if err == api.OK && count < len(word) {
		return api.ErrRule
	}
	return err
}

// accept reads a word and the end. If the word is not accepted it returns false, and the index of what is wrong.
func (p *parser) accept(word []string) (bool, int, api.Errno) {
	count, err := p.readAll(word)
	if err != api.OK || count < len(word) {
		return false, count, err
	}
	ok, err := p.read(theEnd)
	if err != api.OK || ok {
		return ok, 0, err
	}
	return false, len(word), api.OK
}

// moved is the state to which a symbol leads; false if there is no move by it.
func moved(s api.State, symbol string) (int, bool) {
	i, ok := slices.BinarySearchFunc(s.Moves, symbol, func(m api.Move, symbol string) int {
		return strings.Compare(m.Symbol, symbol)
	})
	if !ok {
		return 0, false
	}
	return s.Moves[i].To, true
}

// reduced is the rule that is reduced if something comes; false if there is none.
func reduced(s api.State, ahead string) (int, bool) {
	i, ok := slices.BinarySearchFunc(s.Reduces, ahead, func(r api.Reduce, ahead string) int {
		return strings.Compare(r.Ahead, ahead)
	})
	if !ok {
		return 0, false
	}
	return s.Reduces[i].Rule, true
}
