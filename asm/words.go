package asm

// eachLine hands on a text's lines one by one, each from its first byte that is no blank up to its remark, with that byte's place, till one is refused. Those that have nothing but blanks are passed over.
func eachLine(s string, take func(at int, line string) bool) {
	for end := 0; end < len(s); end++ {
		at := end
		end += span(s[at:], isNoNewline)
		line := s[at:end]
		line = line[:span(line, isNoRemark)]
		blanks := span(line, isBlank)
		if blanks < len(line) && !take(at+blanks, line[blanks:]) {
			return
		}
	}
}

// words hands out a text's words one by one ("" behind the last one), and what stands behind the last one that was handed out.
func words(s string) (next, rest func() string) {
	next = func() string {
		s = s[span(s, isBlank):]
		word := s[:span(s, isNoBlank)]
		s = s[len(word):]
		return word
	}
	return next, func() string { return s }
}

// span is how many bytes of s stand ahead of the first one that is not such a one.
func span(s string, is func(byte) bool) int {
	for at := range len(s) {
		if !is(s[at]) {
			return at
		}
	}
	return len(s)
}

func isBlank(b byte) bool { return b == ' ' || b == '\t' || b == '\n' || b == '\r' }

func isNoBlank(b byte) bool { return !isBlank(b) }

func isNoNewline(b byte) bool { return b != '\n' }

func isNoRemark(b byte) bool { return b != ';' }
