package edits

import (
	"mainline/api"
	"mainline/codec"
)

// partsOfEdit is the number of strings of which the encoding of an edit consists.
const partsOfEdit = 4

// Encode returns the edits as bytes, from which Decode gets them back.
func Encode(l []api.Edit) string {
	encoded := make([]string, len(l))
	for i, edit := range l {
		kind := codec.Number(codec.Signed(edit.Kind))
		encoded[i] = codec.Pack([]string{kind, edit.Path, edit.To, edit.Text})
	}
	return codec.Pack(encoded)
}

// Decode returns the edits of which s is the encoding.
func Decode(s string) ([]api.Edit, api.Errno) {
	encoded, e := codec.Unpack(s)
	if e != api.OK {
		return nil, e
	}
	l := make([]api.Edit, len(encoded))
	for i, one := range encoded {
		if l[i], e = decodeEdit(one); e != api.OK {
			return nil, e
		}
	}
	return l, api.OK
}

func decodeEdit(s string) (api.Edit, api.Errno) {
	parts, e := codec.Unpack(s)
	if e != api.OK {
		return api.Edit{}, e
	}
	if len(parts) != partsOfEdit {
		return api.Edit{}, api.ErrForm
	}
	kind, size, e := codec.ReadNumber(parts[0])
	if e != api.OK || size != len(parts[0]) { // a number that is cut off, too, is only a wrong form of an edit
		return api.Edit{}, api.ErrForm
	}
	return api.Edit{Kind: codec.Unsigned(kind), Path: parts[1], To: parts[2], Text: parts[3]}, api.OK
}
