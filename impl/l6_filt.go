package impl

// Filt is a filter.
type Filt struct {
	Kind int
	N    int
	S    string
	V    Val
	Kids []Filt
}

// Kinds of filters, and bounds.
const (
	FiltId   = 1
	FiltLit  = 2
	FiltKey  = 3
	FiltAt   = 4
	FiltEach = 5
	FiltPipe = 6
	FiltBoth = 7
	FiltIf   = 8
	FiltAdd  = 9
	FiltLess = 10
	FiltSame = 11
	FiltRow  = 12
	FiltLen  = 13
	FiltKeys = 14
	FiltNot  = 15
	FiltElse = 16
	FiltTry  = 17
	FiltNone = 18
	FiltBad  = 19
	FiltTurn = 20
	FiltMake = 21
	FiltSize = 16
	FiltDeep = 7
)

// FiltOk says whether a filter is one.
func FiltOk(f Filt) bool { return false }

// FiltAlike says whether two filters are one.
func FiltAlike(a Filt, b Filt) bool { return false }

// FiltMany is how many parts a filter has, with itself.
func FiltMany(f Filt) int { return 0 }

// FiltText writes a filter.
func FiltText(f Filt) string { return "" }

// FiltRead reads a filter.
func FiltRead(text string) (Filt, bool) { return Filt{}, false }
