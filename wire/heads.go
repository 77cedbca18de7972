package wire

// Wire types.
const (
	typeNumber = 0
	typeEight  = 1
	typeBytes  = 2
	typeFour   = 5
)

// maxField is the last field number there is.
const maxField = 536870911

// Heads of fields, 8 times the field number and the wire type.
const (
	headSeries = 8*1 + typeBytes

	headLabel  = 8*1 + typeBytes
	headSample = 8*2 + typeBytes

	headName  = 8*1 + typeBytes
	headValue = 8*2 + typeBytes

	headBits = 8*1 + typeEight
	headTime = 8*2 + typeNumber
)
