package samples

import (
	"slices"
	"testing"
)

func TestStringsAreAllOfThem(t *testing.T) {
	if all := Strings("ab", 2); !slices.Equal(all, []string{"", "a", "b", "aa", "ab", "ba", "bb"}) {
		t.Errorf("%q", all)
	}
}

func TestNumbersAndWordsDependOnTheSeedAlone(t *testing.T) {
	below, again, words, wordsAgain := Below(1), Below(1), Words(1, "ab"), Words(1, "ab")
	seen := map[string]bool{}
	for range 1000 {
		if n := below(3); n != again(3) || n < 0 || n >= 3 {
			t.Fatalf("%d of 3", n)
		}
		word := words(2)
		if word != wordsAgain(2) {
			t.Fatalf("another word than %q", word)
		}
		seen[word] = true
	}
	if len(seen) != 7 {
		t.Errorf("%d different words of 7", len(seen))
	}
}
