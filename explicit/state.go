package explicit

import "typecase/api"

// none is the override of an entry that has none; it is no class.
const none = 0

// entry is an entry of the stack: the level and the override of the characters until it is popped. One that an isolate pushed is popped by a PDI alone.
type entry struct {
	level    int
	override int
	isolate  bool
}

// state is what the characters so far have left: the stack, and the numbers of the open isolates and embeddings that overflowed and of the open isolates that did not.
type state struct {
	stack          []entry
	overIsolates   int
	overEmbeddings int
	isolates       int
}

// initial returns the state at the beginning of a paragraph of level base.
func initial(base int) state {
	return state{stack: []entry{{level: base}}}
}

// last returns the entry that holds for the next character.
func (s *state) last() entry {
	return s.stack[len(s.stack)-1]
}

// show returns the level and the class of a character of the class that is not removed (X6).
func (s *state) show(class int) (int, int) {
	last := s.last()
	if last.override != none {
		class = last.override
	}
	return last.level, class
}

// embed does to the state what a removed character of the class does (X2 to X5 and X7).
func (s *state) embed(class int) {
	switch class {
	case api.BidiLRE:
		s.open(false, none)
	case api.BidiRLE:
		s.open(true, none)
	case api.BidiLRO:
		s.open(false, api.BidiL)
	case api.BidiRLO:
		s.open(true, api.BidiR)
	case api.BidiPDF:
		s.endEmbedding()
	}
}

// open opens an embedding with the override. One that overflows is counted, so that its PDF closes nothing else; within an overflowing isolate none is, since PDF does nothing there.
func (s *state) open(left bool, override int) {
	if !s.push(entry{level: s.above(left), override: override}) && s.overIsolates == 0 {
		s.overEmbeddings++
	}
}

// endEmbedding closes the last embedding, but none that was open when the innermost isolate began (X7).
func (s *state) endEmbedding() {
	switch {
	case s.overIsolates > 0:
	case s.overEmbeddings > 0:
		s.overEmbeddings--
	case len(s.stack) > 1 && !s.last().isolate:
		s.stack = s.stack[:len(s.stack)-1]
	}
}

// isolate opens an isolate, of which the initiator and what it isolates are given (X5a to X5c). Where it overflows in any case its direction is not asked for: to look through each one of very many in one another would take long.
func (s *state) isolate(isolate []int) {
	if s.overflows() || !s.push(entry{level: s.above(leftward(isolate)), isolate: true}) {
		s.overIsolates++
		return
	}
	s.isolates++
}

// endIsolate closes the innermost isolate, if there is one, and all embeddings in it (X6a).
func (s *state) endIsolate() {
	switch {
	case s.overIsolates > 0:
		s.overIsolates--
	case s.isolates > 0:
		s.overEmbeddings = 0
		at := len(s.stack) - 1
		for !s.stack[at].isolate {
			at--
		}
		s.stack = s.stack[:at]
		s.isolates--
	}
}

// push pushes the entry and returns true, unless its level is too high or something that overflowed is open.
func (s *state) push(e entry) bool {
	if e.level > api.MaxLevel || s.overflows() {
		return false
	}
	s.stack = append(s.stack, e)
	return true
}

// overflows tells whether an embedding or an isolate that overflowed is open: then whatever opens overflows, too.
func (s *state) overflows() bool {
	return s.overIsolates > 0 || s.overEmbeddings > 0
}

// above returns the least level above the last one for text that runs to the left, an odd one, or to the right, an even one.
func (s *state) above(left bool) int {
	level := s.last().level + 1
	if odd := level&1 == 1; odd != left {
		level++
	}
	return level
}
