package script

// escape is how signs of a text are written that do not stand as they are: behind \ a letter and so many hexadecimal digits.
type escape struct {
	letter rune
	digits int
}

const hexDigits = "0123456789abcdef"

// Bytes of texts and units of data are escaped each in their own way.
func ofBytes() escape { return escape{'x', 2} }
func ofUnits() escape { return escape{'u', 4} }

// printable tells whether a sign is written without digits.
func printable(sign rune) bool { return sign >= 32 && sign <= 126 }

// marked tells whether a sign that is printable has \ ahead, since it would end a text, or begin an escape.
func marked(sign rune) bool { return sign == '"' || sign == '\\' }
