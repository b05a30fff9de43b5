package read

import (
	"swingle/api"
	"swingle/formed"
	"swingle/term"
)

// spotted is a module with the places of its rules.
type spotted struct {
	module api.ReadModule
	spots  []api.ReadSpot
}

// goal is an expression with the names of its variables.
type goal struct {
	term  api.Term
	names []string
}

// understood returns what the phrase says that a source is, if that is formed.
func understood[P, T any](source string, phrase func(*reader) P, says func(P) T, isFormed func(T) bool) (made T, e api.Errno) {
	defer func() {
		if gave, ok := recover().(giveUp); ok {
			var none T
			made, e = none, gave.why
		}
	}()
	list, e := Tokens(source)
	if e != api.OK {
		return made, e
	}
	made = says(whole(list, phrase))
	if !isFormed(made) {
		panic(giveUp{api.ErrArg})
	}
	return made, api.OK
}

func readModule(source string) (spotted, api.Errno) {
	isFormed := func(m spotted) bool { return formed.Module(m.module) }
	return understood(source, (*reader).module, moduleOf, isFormed)
}

func readGoal(s api.TermSig, source string) (goal, api.Errno) {
	isFormed := func(g goal) bool { return term.Check(s, g.term) == api.OK }
	return understood(source, (*reader).expr, newScope(s).goalOf, isFormed)
}

func readType(datas []api.KindData, source string) (api.KindType, api.Errno) {
	says := func(t typePhrase) api.KindType { return typeOf(datas, t) }
	isFormed := func(t api.KindType) bool { return formed.Type(datas, t) }
	return understood(source, (*reader).kind, says, isFormed)
}
