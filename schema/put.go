package schema

import (
	"halyard/api"
	"halyard/tokens"
)

func putType(row *tokens.Row, t api.Type) {
	row.Put(tokens.Name(wordType), tokens.Name(t.Name), tokens.Sign("{"))
	for _, f := range t.Fields {
		row.Put(tokens.Name(f.Name), tokens.Sign(":"))
		putKind(row, f)
	}
	row.Put(tokens.Sign("}"))
}

func putKind(row *tokens.Row, f api.Field) {
	switch f.Kind {
	case api.FieldNumber:
		row.Put(tokens.Name(wordNumber))
	case api.FieldText:
		row.Put(tokens.Name(wordText))
	case api.FieldOne:
		row.Put(tokens.Name(f.Of))
	case api.FieldMany:
		row.Put(tokens.Sign("["), tokens.Name(f.Of), tokens.Sign("]"))
	}
}
