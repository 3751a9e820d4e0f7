package query

import (
	"halyard/api"
	"halyard/parse"
)

func whole(line *parse.Line) []api.Select {
	line.Sign("{")
	l := readList(line)
	line.End()
	return l
}

// readList of selects, behind its `{`.
func readList(line *parse.Line) []api.Select {
	var l []api.Select
	for {
		l = append(l, readSelect(line))
		if line.Skip("}") {
			return l
		}
	}
}

func readSelect(line *parse.Line) api.Select {
	s := api.Select{Name: line.Take(api.TokenName).Text}
	if line.Skip(":") {
		s.Alias, s.Name = s.Name, line.Take(api.TokenName).Text
	}
	if line.Skip("(") {
		s.Args = readArgs(line)
	}
	if line.Skip("{") {
		s.Kids = readList(line)
	}
	return s
}

// readArgs of a select, behind their `(`.
func readArgs(line *parse.Line) []api.Arg {
	var l []api.Arg
	for {
		l = append(l, readArg(line))
		if line.Skip(")") {
			return l
		}
	}
}

func readArg(line *parse.Line) api.Arg {
	name := line.Take(api.TokenName).Text
	line.Sign(":")
	t := line.Take(api.TokenNumber, api.TokenText)
	return api.Arg{Name: name, IsText: t.Kind == api.TokenText, Text: t.Text, N: t.N}
}
