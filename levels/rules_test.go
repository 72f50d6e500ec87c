package levels

import (
	"slices"

	"typecase/api"
	"typecase/props"
)

// sign is a code point on its way through the rules of the bidirectional algorithm, as the chapters 9 to 15 tell them.
type sign struct {
	code              rune
	own, class, level int
}

// strong is the class that the sign counts as beside brackets and neutral ones, or 0.
func (s *sign) strong() int {
	switch {
	case s.class == api.BidiL:
		return api.BidiL
	case among(s.class, api.BidiR, api.BidiEN, api.BidiAN):
		return api.BidiR
	}
	return 0
}

// sideOf is the class of a level's direction.
func sideOf(level int) int { return []int{api.BidiL, api.BidiR}[level%2] }

// sequence is an isolating run sequence: its signs, their level, what stands for what is beside them, and the place of its last sign among those that are kept.
type sequence struct {
	signs                 []*sign
	level, sos, eos, last int
}

// byRules returns the levels of a paragraph by the rules alone: no other layer is called but for properties.
func byRules(t []rune, level int) []int {
	signs := make([]sign, len(t))
	for i, r := range t {
		signs[i] = sign{code: r, own: classOf(r), class: classOf(r), level: level}
	}
	pairs := pairIsolates(signs)
	ruleX(signs, pairs, level)
	var kept []int
	for i := range signs {
		if !removes(signs[i].own) {
			kept = append(kept, i)
		}
	}
	for _, seq := range sequences(signs, pairs, kept, level) {
		seq.rulesW()
		seq.ruleN0()
		seq.rulesN()
	}
	levels := make([]int, len(t))
	before := level
	for i := range signs {
		if !removes(signs[i].own) {
			before = signs[i].implicit()
		}
		levels[i] = before
	}
	return levels
}

// pairIsolates leads from each initiator to its PDI and back.
func pairIsolates(signs []sign) map[int]int {
	pairs := map[int]int{}
	for at := range signs {
		for i := at - 1; signs[at].own == api.BidiPDI && i >= 0 && signs[i].own != api.BidiB; i-- {
			if _, paired := pairs[i]; !paired && isolates(signs[i].own) {
				pairs[i], pairs[at] = at, i
				break
			}
		}
	}
	return pairs
}

// towards tells whether the signs that an FSI isolates run from right to left.
func towards(signs []sign) bool {
	pairs := pairIsolates(signs)
	for i := 0; i < len(signs); i++ {
		switch own := signs[i].own; {
		case own == api.BidiL || own == api.BidiB:
			return false
		case own == api.BidiR || own == api.BidiAL:
			return true
		case isolates(own):
			end, paired := pairs[i]
			if !paired {
				return false
			}
			i = end
		}
	}
	return false
}

// entry is an entry of the stack of the rules X1 to X8.
type entry struct {
	level, override int
	isolate         bool
}

// state is all of their state.
type state struct {
	stack                    []entry
	isolates, embeds, valids int
}

func (s *state) top() entry { return s.stack[len(s.stack)-1] }

// above is the least odd or even level above that of the last entry, and whether one may be pushed.
func (s *state) above(odd bool) (int, bool) {
	next := s.top().level + 1
	if odd != (next%2 == 1) {
		next++
	}
	return next, next <= api.MaxLevel && s.isolates == 0 && s.embeds == 0
}

// embed is X2 to X5.
func (s *state) embed(own int) {
	next, ok := s.above(own == api.BidiRLE || own == api.BidiRLO)
	override := map[int]int{api.BidiLRO: api.BidiL, api.BidiRLO: api.BidiR}[own]
	switch {
	case ok:
		s.stack = append(s.stack, entry{next, override, false})
	case s.isolates == 0:
		s.embeds++
	}
}

// isolate is the latter half of X5a to X5c.
func (s *state) isolate(odd bool) {
	next, ok := s.above(odd)
	if !ok {
		s.isolates++
		return
	}
	s.valids++
	s.stack = append(s.stack, entry{next, 0, true})
}

// endIsolate is the former half of X6a.
func (s *state) endIsolate() {
	switch {
	case s.isolates > 0:
		s.isolates--
	case s.valids > 0:
		s.embeds = 0
		for !s.top().isolate {
			s.stack = s.stack[:len(s.stack)-1]
		}
		s.stack = s.stack[:len(s.stack)-1]
		s.valids--
	}
}

// endEmbed is X7.
func (s *state) endEmbed() {
	switch {
	case s.isolates > 0:
	case s.embeds > 0:
		s.embeds--
	case len(s.stack) > 1 && !s.top().isolate:
		s.stack = s.stack[:len(s.stack)-1]
	}
}

// ruleX is X1 to X8.
func ruleX(signs []sign, pairs map[int]int, level int) {
	s := state{stack: []entry{{level: level}}}
	for i := range signs {
		one := &signs[i]
		switch own := one.own; {
		case own == api.BidiPDF:
			s.endEmbed()
			continue
		case own == api.BidiBN:
			continue
		case removes(own):
			s.embed(own)
			continue
		case own == api.BidiPDI:
			s.endIsolate()
		case own == api.BidiB:
			s = state{stack: []entry{{level: level}}}
		}
		one.level = s.top().level
		if s.top().override != 0 {
			one.class = s.top().override
		}
		if isolates(one.own) {
			end, paired := pairs[i]
			if !paired {
				end = len(signs)
			}
			s.isolate(one.own == api.BidiRLI || one.own == api.BidiFSI && towards(signs[i+1:end]))
		}
	}
}

// sequences puts the level runs of the kept signs together (X10).
func sequences(signs []sign, pairs map[int]int, kept []int, level int) []*sequence {
	levelAt := func(k int) int {
		if k < 0 || k >= len(kept) {
			return level
		}
		return signs[kept[k]].level
	}
	var all []*sequence
	for k, i := range kept {
		if k > 0 && levelAt(k-1) == levelAt(k) {
			seq := all[slices.IndexFunc(all, func(seq *sequence) bool { return seq.last == k-1 })]
			seq.signs, seq.last = append(seq.signs, &signs[i]), k
			continue
		}
		if begin, paired := pairs[i]; paired && signs[i].own == api.BidiPDI {
			seq := all[slices.IndexFunc(all, func(seq *sequence) bool { return kept[seq.last] == begin })]
			seq.signs, seq.last = append(seq.signs, &signs[i]), k
			continue
		}
		all = append(all, &sequence{signs: []*sign{&signs[i]}, level: levelAt(k), sos: sideOf(max(levelAt(k), levelAt(k-1))), last: k})
	}
	for _, seq := range all {
		after := levelAt(seq.last + 1)
		if isolates(signs[kept[seq.last]].own) {
			after = level
		}
		seq.eos = sideOf(max(seq.level, after))
	}
	return all
}

// classAt is the class at a place of the sequence, sos before it and 0 behind it.
func (q *sequence) classAt(k int) int {
	switch {
	case k < 0:
		return q.sos
	case k >= len(q.signs):
		return 0
	}
	return q.signs[k].class
}

// back is the nearest class among the given ones before the place, or sos.
func (q *sequence) back(k int, all ...int) int {
	for k--; k >= 0 && !among(q.classAt(k), all...); k-- {
	}
	return q.classAt(k)
}

// rulesW is W1 to W7.
func (q *sequence) rulesW() {
	rules := []func(k int, s *sign){
		func(k int, s *sign) {
			if s.class == api.BidiNSM {
				s.class = q.classAt(k - 1)
				if isolates(s.class) || s.class == api.BidiPDI {
					s.class = api.BidiON
				}
			}
		},
		func(k int, s *sign) {
			if s.class == api.BidiEN && q.back(k, api.BidiL, api.BidiR, api.BidiAL) == api.BidiAL {
				s.class = api.BidiAN
			}
		},
		func(k int, s *sign) {
			if s.class == api.BidiAL {
				s.class = api.BidiR
			}
		},
		func(k int, s *sign) {
			before, after := q.classAt(k-1), q.classAt(k+1)
			if k > 0 && before == after && (s.class == api.BidiCS && among(before, api.BidiEN, api.BidiAN) || s.class == api.BidiES && before == api.BidiEN) {
				s.class = before
			}
		},
		func(k int, s *sign) {
			if s.class == api.BidiEN {
				q.terminators(k, -1)
				q.terminators(k, 1)
			}
		},
		func(k int, s *sign) {
			if among(s.class, api.BidiES, api.BidiET, api.BidiCS) {
				s.class = api.BidiON
			}
		},
		func(k int, s *sign) {
			if s.class == api.BidiEN && q.back(k, api.BidiL, api.BidiR) == api.BidiL {
				s.class = api.BidiL
			}
		},
	}
	for _, rule := range rules {
		for k, s := range q.signs {
			rule(k, s)
		}
	}
}

// terminators makes the terminators beside a number part of it.
func (q *sequence) terminators(k, step int) {
	for k += step; k >= 0 && q.classAt(k) == api.BidiET; k += step {
		q.signs[k].class = api.BidiEN
	}
}

// ruleN0 resolves brackets.
func (q *sequence) ruleN0() {
	ends := q.pairBrackets()
	for from := range q.signs {
		to, paired := ends[from]
		if !paired {
			continue
		}
		side := q.sideOfPair(from, to)
		for _, k := range []int{from, to} {
			for j := k; side != 0 && j < len(q.signs) && (j == k || q.signs[j].own == api.BidiNSM); j++ {
				q.signs[j].class = side
			}
		}
	}
}

// pairBrackets leads from each opening bracket to its closing one.
func (q *sequence) pairBrackets() map[int]int {
	ends := map[int]int{}
	var open []int
	for k, s := range q.signs {
		p := props.Of(s.code)
		if s.class != api.BidiON || p.Pair == 0 {
			continue
		}
		if p.Opens {
			if len(open) == 63 {
				return ends
			}
			open = append(open, k)
			continue
		}
		for n := len(open) - 1; n >= 0; n-- {
			if props.Canon(q.signs[open[n]].code) == props.Canon(p.Pair) {
				ends[open[n]] = k
				open = open[:n]
				break
			}
		}
	}
	return ends
}

// sideOfPair is the class that both brackets take, or 0.
func (q *sequence) sideOfPair(from, to int) int {
	own := sideOf(q.level)
	found := 0
	for _, s := range q.signs[from+1 : to] {
		if s.strong() == own {
			return own
		}
		found = max(found, s.strong())
	}
	if found == 0 {
		return 0
	}
	before := q.sos
	for _, s := range q.signs[:from] {
		if s.strong() != 0 {
			before = s.strong()
		}
	}
	if before == found {
		return found
	}
	return own
}

// rulesN is N1 and N2.
func (q *sequence) rulesN() {
	sides := make([]int, len(q.signs))
	for k := range q.signs {
		before, after := q.sos, q.eos
		for _, s := range q.signs[:k] {
			if s.strong() != 0 {
				before = s.strong()
			}
		}
		for _, s := range slices.Backward(q.signs[k+1:]) {
			if s.strong() != 0 {
				after = s.strong()
			}
		}
		sides[k] = sideOf(q.level)
		if before == after {
			sides[k] = before
		}
	}
	for k, s := range q.signs {
		if s.strong() == 0 {
			s.class = sides[k]
		}
	}
}

// implicit is I1 and I2.
func (s *sign) implicit() int {
	switch {
	case s.class == sideOf(s.level):
		return s.level
	case s.class == api.BidiL || s.class == api.BidiR || s.level%2 == 1:
		return s.level + 1
	}
	return s.level + 2
}
