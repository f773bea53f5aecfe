package glob

// What the chapter says of patterns, built anew and in another way than the program: the bytes of a pattern are first
// told apart into those with and without a \, a sign is the table of all bytes that it means, and a text is split by
// following every split at once.

// mark is a byte of a pattern; bare if no \ belongs to it, so that it may be a star or a bracket.
type mark struct {
	b    byte
	bare bool
}

// meant is a sign: a star, or just those bytes that it means.
type meant struct {
	star, set bool
	bytes     [256]bool
}

// marksOf takes the pattern's \ away. ownSlash: its last byte is a \ that stands for itself.
func marksOf(pattern string) (marks []mark, ownSlash bool) {
	for len(pattern) > 0 {
		switch {
		case pattern[0] != '\\':
			marks, pattern = append(marks, mark{pattern[0], true}), pattern[1:]
		case len(pattern) == 1:
			return append(marks, mark{'\\', false}), true
		default:
			marks, pattern = append(marks, mark{pattern[1], false}), pattern[2:]
		}
	}
	return marks, false
}

// signsOf tells a pattern's signs. within: it ends within a set.
func signsOf(pattern string) (signs []meant, within bool) {
	marks, _ := marksOf(pattern)
	for len(marks) > 0 {
		m := marks[0]
		marks = marks[1:]
		var g meant
		switch {
		case m == mark{'*', true}:
			g.star = true
		case m == mark{'?', true}:
			for b := range 256 {
				g.bytes[b] = true
			}
			g.set = true
		case m == mark{'[', true}:
			end := 0
			for end < len(marks) && marks[end] != (mark{']', true}) {
				end++
			}
			g.bytes, g.set = bytesOfSet(marks[:end]), true
			if end == len(marks) {
				return append(signs, g), true
			}
			marks = marks[end+1:]
		default:
			g.bytes[m.b] = true
		}
		signs = append(signs, g)
	}
	return signs, false
}

// bytesOfSet tells which bytes a set means.
func bytesOfSet(items []mark) (out [256]bool) {
	turned := len(items) > 0 && items[0] == mark{'^', true}
	if turned {
		items = items[1:]
	}
	for len(items) > 0 {
		from, to, used := int(items[0].b), int(items[0].b), 1
		if len(items) >= 3 && items[1] == (mark{'-', true}) {
			to, used = int(items[2].b), 3
		}
		if from > to {
			from, to = to, from
		}
		for b := from; b <= to; b++ {
			out[b] = true
		}
		items = items[used:]
	}
	if turned {
		for b := range out {
			out[b] = !out[b]
		}
	}
	return out
}

// splits says whether s can be split into rows that the signs mean.
func splits(signs []meant, s string) bool {
	reach := make([]bool, len(s)+1) // reach[i]: the signs so far can have taken just the first i bytes
	reach[0] = true
	for _, g := range signs {
		next := make([]bool, len(s)+1)
		for i := range reach {
			switch {
			case g.star:
				next[i] = reach[i] || i > 0 && next[i-1]
			case i > 0:
				next[i] = reach[i-1] && g.bytes[s[i-1]]
			}
		}
		reach = next
	}
	return reach[len(s)]
}

// rows tells all rows of at most that many of the letters, the shorter ones first.
func rows(letters string, most int) []string {
	out := []string{""}
	for from, n := 0, 0; n < most; n++ {
		behind := len(out)
		for _, row := range out[from:behind] {
			for i := range len(letters) {
				out = append(out, row+letters[i:i+1])
			}
		}
		from = behind
	}
	return out
}

// escaped puts a \ ahead of each byte.
func escaped(text string) string {
	out := make([]byte, 0, 2*len(text))
	for i := range len(text) {
		out = append(out, '\\', text[i])
	}
	return string(out)
}
