package schema

import (
	"halyard/api"
	"halyard/parse"
)

// Words of a schema. A type may be called type, but neither of the others, so that a field of it can't be taken for another kind.
const (
	wordType   = "type"
	wordNumber = "Number"
	wordText   = "Text"
)

// readTypes up to the end of the line.
func readTypes(line *parse.Line) []api.Type {
	var l []api.Type
	for {
		l = append(l, readType(line))
		if line.Ended() {
			return l
		}
	}
}

func readType(line *parse.Line) api.Type {
	line.Word(wordType)
	t := api.Type{Name: line.Take(api.TokenName).Text}
	line.Sign("{")
	for {
		t.Fields = append(t.Fields, readField(line))
		if line.Skip("}") {
			return t
		}
	}
}

func readField(line *parse.Line) api.Field {
	name := line.Take(api.TokenName).Text
	line.Sign(":")
	if line.Skip("[") {
		of := line.Take(api.TokenName).Text
		line.Sign("]")
		return api.Field{Name: name, Kind: api.FieldMany, Of: of}
	}
	switch of := line.Take(api.TokenName).Text; of {
	case wordNumber:
		return api.Field{Name: name, Kind: api.FieldNumber}
	case wordText:
		return api.Field{Name: name, Kind: api.FieldText}
	default:
		return api.Field{Name: name, Kind: api.FieldOne, Of: of}
	}
}
