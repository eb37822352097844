package keys

import (
	"mainline/api"
	"mainline/codec"
)

// asBytes writes an input in such a way that different inputs have different bytes: no Pack is the beginning of another one, and no Number either.
func asBytes(i input) string {
	return codec.Pack([]string{
		i.core.Label,
		i.core.Platform,
		codec.Pack(i.core.Outs),
		filesAsBytes(i.core.Files),
		numbersAsBytes(i.core.Kind, i.core.Cost, i.core.Retry),
		numbersAsBytes(i.deps...),
	})
}

func filesAsBytes(files []api.File) string {
	var parts []string
	for _, file := range files {
		parts = append(parts, file.Path, numbersAsBytes(file.Id))
	}
	return codec.Pack(parts)
}

// numbersAsBytes writes numbers of any sign.
func numbersAsBytes(numbers ...int) string {
	var written []byte
	for _, number := range numbers {
		written = append(written, codec.Number(codec.Signed(number))...)
	}
	return string(written)
}
