// Package samples makes the inputs with which the tests of the other packages try many cases; nothing but tests imports it.
package samples

// Strings returns all strings of at most most bytes of the alphabet.
func Strings(alphabet string, most int) []string {
	all := []string{""}
	longest := all
	for range most {
		var longer []string
		for _, s := range longest {
			for i := range len(alphabet) {
				longer = append(longer, s+alphabet[i:i+1])
			}
		}
		all = append(all, longer...)
		longest = longer
	}
	return all
}

// Below returns a function that returns numbers from 0 to n - 1, without an order that shows, but the same ones for the same seed.
func Below(seed uint32) func(n int) int {
	state := seed
	return func(n int) int {
		state = state*1664525 + 1013904223
		return int(state>>8) % n
	}
}

// Words returns a function that makes strings of at most most bytes of the alphabet, the same ones for the same seed.
func Words(seed uint32, alphabet string) func(most int) string {
	below := Below(seed)
	return func(most int) string {
		word := make([]byte, below(most+1))
		for i := range word {
			word[i] = alphabet[below(len(alphabet))]
		}
		return string(word)
	}
}
