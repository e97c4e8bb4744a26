package token

// run is as many bytes from the beginning of a text on as are such.
func run(text string, such func(byte) bool) string {
	n := 0
	for n < len(text) && such(text[n]) {
		n++
	}
	return text[:n]
}

func blank(b byte) bool { return b == ' ' || b == '\t' || b == '\n' || b == '\r' }

func small(b byte) bool { return 'a' <= b && b <= 'z' }

func great(b byte) bool { return 'A' <= b && b <= 'Z' }

func digit(b byte) bool { return '0' <= b && b <= '9' }

func wordByte(b byte) bool { return small(b) || great(b) || digit(b) || b == '_' }

func quotable(b byte) bool { return ' ' <= b && b <= '~' && b != '\'' && b != '\\' }
