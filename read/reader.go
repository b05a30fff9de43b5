package read

import "swingle/api"

// giveUp is what reading panics with where it can't go on.
type giveUp struct {
	why api.Errno
}

// reader reads the phrases of a source, one token after the other.
type reader struct {
	tokens []api.ReadToken
	at     int
	levels [levels]func() phrase
}

func newReader(tokens []api.ReadToken) *reader {
	r := &reader{tokens: tokens}
	r.levels = [levels]func() phrase{
		levelExpr: r.expr,
		levelOr:   r.or,
		levelBoth: r.both,
		levelTest: r.test,
		levelSum:  r.sum,
		levelCall: r.call,
		levelAtom: r.atom,
	}
	return r
}

// whole gives up if something is behind what was read.
func whole[T any](tokens []api.ReadToken, read func(*reader) T) T {
	r := newReader(tokens)
	made := read(r)
	if r.at < len(r.tokens) {
		panic(giveUp{api.ErrText})
	}
	return made
}

// next returns the next token, behind the last one a token of no kind.
func (r *reader) next() api.ReadToken {
	if r.at == len(r.tokens) {
		return api.ReadToken{Kind: noToken}
	}
	return r.tokens[r.at]
}

// take goes on behind the next token; it gives up if that is of none of some kinds.
func (r *reader) take(kinds ...api.ReadKind) api.ReadToken {
	t := r.next()
	for _, k := range kinds {
		if t.Kind == k {
			r.at++
			return t
		}
	}
	panic(giveUp{api.ErrText})
}

// takes goes on behind the next token, if it is this sign, or word; no other token has its text.
func (r *reader) takes(text string) bool {
	is := r.next().Text == text
	if is {
		r.at++
	}
	return is
}

func (r *reader) must(text string) {
	if !r.takes(text) {
		panic(giveUp{api.ErrText})
	}
}

// separated reads a list whose parts have a sign between them.
func separated[T any](r *reader, sign string, part func() T) []T {
	list := []T{part()}
	for r.takes(sign) {
		next := part()
		list = append(list, next)
	}
	return list
}

// bracketed reads a list between brackets, if there is one.
func bracketed[T any](r *reader, part func() T) []T {
	if !r.takes("(") {
		return nil
	}
	list := separated(r, ",", part)
	r.must(")")
	return list
}

func (r *reader) module() modulePhrase {
	var m modulePhrase
	for r.at < len(r.tokens) {
		if r.takes("data") {
			m.datas = append(m.datas, r.data())
		} else {
			m.rules = append(m.rules, r.rule())
		}
	}
	return m
}

func (r *reader) data() dataPhrase {
	d := dataPhrase{name: r.take(api.ReadGreat).Text}
	for r.next().Kind == api.ReadName {
		d.params = append(d.params, r.take(api.ReadName).Text)
	}
	r.must("=")
	d.cons = separated(r, "|", r.con)
	r.must(";")
	return d
}

func (r *reader) con() conPhrase {
	name := r.take(api.ReadGreat).Text
	return conPhrase{name, bracketed(r, r.kind)}
}

func (r *reader) kind() typePhrase {
	from := r.part()
	if !r.takes("->") {
		return from
	}
	to := r.kind()
	return typePhrase{sort: api.KindFun, parts: []typePhrase{from, to}}
}

func (r *reader) part() typePhrase {
	if r.takes("(") {
		inside := r.kind()
		r.must(")")
		return inside
	}
	t := r.take(api.ReadName, api.ReadGreat)
	if t.Kind == api.ReadName {
		return typePhrase{sort: api.KindVar, name: t.Text}
	}
	return typePhrase{api.KindOfData, t.Text, bracketed(r, r.kind)}
}

func (r *reader) rule() rulePhrase {
	begin := r.take(api.ReadName)
	made := rulePhrase{fun: begin.Text, pats: bracketed(r, r.pattern)}
	r.must("=")
	made.rhs = r.expr()
	made.spot = api.ReadSpot{From: begin.Line, To: r.next().Line}
	r.must(";")
	return made
}

func (r *reader) pattern() phrase {
	t := r.take(api.ReadName, api.ReadGreat)
	if t.Kind == api.ReadName {
		return phrase{op: api.TermVar, text: t.Text}
	}
	return phrase{api.TermCon, t.Text, bracketed(r, r.pattern)}
}

func (r *reader) expr() phrase {
	switch {
	case r.takes("let"):
		return r.let()
	case r.takes("when"):
		is := r.expr()
		r.must("then")
		then := r.expr()
		return phrase{op: api.TermWhen, kids: []phrase{is, then}}
	}
	return r.or()
}

func (r *reader) let() phrase {
	name := r.take(api.ReadName).Text
	r.must("=")
	is := r.expr()
	r.must("in")
	body := r.expr()
	return phrase{api.TermLet, name, []phrase{is, body}}
}

func (r *reader) or() phrase { return r.joined(levelOr) }

func (r *reader) both() phrase { return r.joined(levelBoth) }

func (r *reader) test() phrase { return r.joined(levelTest) }

func (r *reader) sum() phrase { return r.joined(levelSum) }

func (r *reader) call() phrase { return r.joined(levelCall) }

// joined reads expressions with the operators of a level between them; what
// was read is a left operand in turn, if those can be of this level.
func (r *reader) joined(level int) phrase {
	made := r.levels[level+1]()
	for {
		o, ok := r.operator(level)
		if !ok {
			return made
		}
		right := r.levels[o.right]()
		made = phrase{op: o.op, kids: []phrase{made, right}}
		if o.left != level {
			return made
		}
	}
}

// operator goes on behind the next token, if it is an operator of a level.
func (r *reader) operator(level int) (operator, bool) {
	for _, o := range operators {
		if o.level == level && r.takes(o.sign) {
			return o, true
		}
	}
	return operator{}, false
}

func (r *reader) atom() phrase {
	if r.takes("(") {
		inside := r.expr()
		r.must(")")
		return inside
	}
	t := r.take(api.ReadInt, api.ReadName, api.ReadGreat)
	switch t.Kind {
	case api.ReadInt:
		return phrase{op: api.TermInt, text: t.Text}
	case api.ReadName:
		return phrase{api.TermVar, t.Text, bracketed(r, r.expr)}
	}
	return phrase{api.TermCon, t.Text, bracketed(r, r.expr)}
}
