package draft

import "taquin/api"

// parser reads a draft.
type parser struct {
	rest  []api.Token // what has not been read: at least the end, which is never taken
	draft api.Draft
}

// read returns the draft of tokens, the last of which is the end; or an error and its line.
func read(tokens []api.Token) (api.Draft, api.Errno, int) {
	p := &parser{rest: tokens}
	lines := p.lines()
	for p.rest[0].Kind != api.TkEnd {
		if err := p.line(lines); err != api.OK {
			return api.Draft{}, err, p.rest[0].Line
		}
	}
	return p.draft, api.OK, 0
}

// lines returns what reads a line, by the word with which it begins, which is the next token.
func (p *parser) lines() map[string]func() api.Errno {
	lines := map[string]func() api.Errno{deckWord: p.deck, rowWord: p.row}
	for kind, f := range forms {
		lines[f.word] = func() api.Errno { return p.item(kind) }
	}
	return lines
}

// take returns the next token, and moves the parser behind it.
func (p *parser) take() api.Token {
	token := p.rest[0]
	p.rest = p.rest[1:]
	return token
}

// line reads a line. With an error, the next token stands on the line of the error.
func (p *parser) line(lines map[string]func() api.Errno) api.Errno {
	if first := p.rest[0]; first.Kind != api.TkLine {
		read, ok := lines[first.Text]
		if first.Kind != api.TkWord || !ok {
			return api.ErrSyntax
		}
		if err := read(); err != api.OK {
			return err
		}
	}
	switch p.rest[0].Kind {
	case api.TkLine:
		p.take()
	case api.TkEnd:
	default:
		return api.ErrSyntax
	}
	return api.OK
}

// deck reads a further deck.
func (p *parser) deck() api.Errno {
	if len(p.draft.Decks) == api.MaxDecks {
		return api.ErrFull
	}
	p.take()
	p.draft.Decks = append(p.draft.Decks, nil)
	return api.OK
}

// row reads a further row of the last deck.
func (p *parser) row() api.Errno {
	last := len(p.draft.Decks) - 1
	if last < 0 {
		return api.ErrSyntax
	}
	rows, second := p.draft.Decks[last], p.rest[1]
	if len(rows) == api.MaxCells || second.Kind == api.TkText && len(second.Text) > maxRow {
		return api.ErrFull
	}
	p.take()
	if second.Kind != api.TkText {
		return api.ErrSyntax
	}
	p.draft.Decks[last] = append(rows, p.take().Text)
	return api.OK
}

// item reads a further item.
func (p *parser) item(kind int) api.Errno {
	if len(p.draft.Items) == MaxItems {
		return api.ErrFull
	}
	item := api.Item{Kind: kind, Line: p.take().Line}
	for _, place := range forms[kind].places {
		if place == class && p.rest[0].Kind != api.TkWord {
			break // what stands there has to end the line
		}
		if !fill(&item, place, p.rest[0]) {
			return api.ErrSyntax
		}
		p.take()
	}
	p.draft.Items = append(p.draft.Items, item)
	return api.OK
}
