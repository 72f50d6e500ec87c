package hyphen

// node is a place of the trie: the letters on the way to it are the start of a pattern.
type node struct {
	children map[rune]*node
	digits   []int // of the pattern that ends here; nil if none does
}

// add puts a pattern below n. It reports false, and changes nothing, if one with these letters is there.
func (n *node) add(letters []rune, digits []int) bool {
	for _, letter := range letters {
		n = n.grown(letter)
	}
	if n.digits != nil {
		return false
	}
	n.digits = digits
	return true
}

// grown returns the child of n for the letter, which is made if it isn't there.
func (n *node) grown(letter rune) *node {
	child := n.children[letter]
	if child == nil {
		child = &node{}
		if n.children == nil {
			n.children = map[rune]*node{}
		}
		n.children[letter] = child
	}
	return child
}

// weights returns the weights of the positions of the word, from 0 to its length, by the patterns below n.
func (n *node) weights(word []rune) []int {
	text := dotted(word)
	weights := make([]int, len(text)+1)
	for i := range text {
		n.raise(weights[i:], text[i:])
	}
	// The first dot is no part of the word, so that position 0 of the word is position 1 of the text.
	return weights[1:len(text)]
}

// raise raises the weights of the positions of text by each pattern below n that begins where text does.
func (n *node) raise(weights []int, text []rune) {
	for _, letter := range text {
		n = n.children[letter]
		if n == nil {
			return
		}
		for i, digit := range n.digits {
			weights[i] = max(weights[i], digit)
		}
	}
}

// dotted returns the word as patterns see it: between two dots, and in small letters.
func dotted(word []rune) []rune {
	text := make([]rune, 0, len(word)+2)
	text = append(text, dot)
	for _, r := range word {
		text = append(text, small(r))
	}
	return append(text, dot)
}

// small returns the small letter of one from A to Z, and r otherwise.
func small(r rune) rune {
	if r >= 'A' && r <= 'Z' {
		return r - 'A' + 'a'
	}
	return r
}
