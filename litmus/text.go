package litmus

const maxFile = 4096

// The words and signs of a test's text; what stands at place n of a list of
// signs is written for the number n.
const (
	nameHead    = "litmus "
	wantHead    = "want"
	fenceWord   = "fence"
	cellSigns   = "abcdefghijklmnop"
	numberSigns = "0123456789abcdef" // of threads and registers
	valSigns    = "0123456789"
)

// signOf answers what is written for a number.
func signOf(signs string, n int) byte {
	if n < 0 || n >= len(signs) {
		return '?'
	}
	return signs[n]
}

// numberOf answers the number for which a sign is written, or -1, if there is none.
func numberOf(signs string, sign byte) int {
	for n := 0; n < len(signs); n++ {
		if signs[n] == sign {
			return n
		}
	}
	return -1
}

// threadHead answers how the line of a thread begins.
func threadHead(thread int) string {
	sign := signOf(numberSigns, thread)
	return string([]byte{'P', sign, ':'})
}
