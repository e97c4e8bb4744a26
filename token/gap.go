package token

import "strings"

// gap is the first place, from at on, where neither a blank nor a remark stands. A remark without its end is none, so it ends the gap where it begins.
func gap(text string, at int) int {
between:
	for at < len(text) {
		switch {
		case blank(text[at]):
			at++
		case text[at] == '%':
			for ; at < len(text); at++ {
				if text[at] == '\n' {
					continue between
				}
			}
		case strings.HasPrefix(text[at:], "/*"):
			for i := at + len("/*"); i < len(text); i++ {
				if strings.HasPrefix(text[i:], "*/") {
					at = i + len("*/")
					continue between
				}
			}
			break between
		default:
			break between
		}
	}
	return at
}
