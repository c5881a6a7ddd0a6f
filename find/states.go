package find

import "iter"

// A state stands for the bytes that lead to it from the root: the beginning of one pattern or more.
// It links to shorter states, as Aho and Corasick do, so that no byte of a string is gone back to, and the time that a search takes doesn't hang on what the patterns are.
type state struct {
	depth int   // how many bytes lead here
	fall  int   // the state of the most of these bytes' end that is a beginning of a pattern too, but not of all of them
	word  int   // the first state from here along fall at which a pattern ends, the root if there is none
	which []int // the patterns that end here, in order
}

const root = 0

// path is how far a pattern has been laid.
type path struct {
	which, at int
	rest      string
}

// lay lays the patterns' states depth by depth, because the links of a state lead to shallower ones, and those must be complete.
func (m *Many) lay(l []string) {
	var paths []path
	for i, p := range l {
		if p != "" {
			paths = append(paths, path{which: i, at: root, rest: p})
		}
	}
	for len(paths) > 0 {
		var longer []path
		for _, p := range paths {
			at := m.child(p.at, p.rest[0])
			if len(p.rest) == 1 {
				m.end(at, p.which)
				continue
			}
			longer = append(longer, path{which: p.which, at: at, rest: p.rest[1:]})
		}
		paths = longer
	}
}

func (m *Many) child(at int, c byte) int {
	key := [2]int{at, int(c)}
	if to, ok := m.next[key]; ok {
		return to
	}
	fall := root
	if at != root {
		fall = m.step(m.states[at].fall, c)
	}
	to := len(m.states)
	m.next[key] = to
	m.states = append(m.states, state{depth: m.states[at].depth + 1, fall: fall, word: m.states[fall].word})
	return to
}

func (m *Many) end(at, which int) {
	m.states[at].word = at
	m.states[at].which = append(m.states[at].which, which)
}

// step ends because each fall leads to a shallower state, and the root falls no further.
func (m *Many) step(at int, c byte) int {
	for {
		if to, ok := m.next[[2]int{at, int(c)}]; ok {
			return to
		}
		if at == root {
			return root
		}
		at = m.states[at].fall
	}
}

// walk yields the offset behind each byte of s, with the state there; nothing if m is nil or not made by New, and has no root.
func (m *Many) walk(s string) iter.Seq2[int, int] {
	return func(yield func(int, int) bool) {
		if m == nil || len(m.states) == 0 {
			return
		}
		at := root
		for i := range len(s) {
			at = m.step(at, s[i])
			if !yield(i+1, at) {
				return
			}
		}
	}
}
