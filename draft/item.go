package draft

import (
	"taquin/api"
	"taquin/lex"
	"taquin/text"
)

// The words of the lines that are no items.
const (
	deckWord = "deck"
	rowWord  = "row"
)

// Places of a line: what stands there.
const (
	name      = 'n'
	other     = 'o'
	number    = '1'
	direction = 'd'
	class     = 'c' // a Name that may be missing; so it is the last place
)

// form is how the line of an item is built: its word, and the places behind it.
type form struct{ word, places string }

// forms are the forms of items, by their Kinds.
var forms = [api.ItKinds]form{
	api.ItZone:   {"zone", "n1111111"},
	api.ItShift:  {"shift", "n11"},
	api.ItOneway: {"oneway", "111d"},
	api.ItApart:  {"apart", "no"},
	api.ItShelf:  {"shelf", "111c"},
	api.ItRobot:  {"robot", "1111"},
}

// directions are the words of directions, by their numbers.
var directions = [api.Dirs]string{
	api.East:  "east",
	api.South: "south",
	api.West:  "west",
	api.North: "north",
	api.Up:    "up",
	api.Down:  "down",
}

// rightItem reports whether an item is right.
func rightItem(item api.Item) bool {
	if item.Kind < 0 || item.Kind >= api.ItKinds {
		return false
	}
	rightName, rightOther, numbers := item.Name == "", item.Other == "", item.N
	for _, place := range forms[item.Kind].places {
		switch place {
		case name:
			rightName = lex.Word(item.Name)
		case class:
			rightName = item.Name == "" || lex.Word(item.Name)
		case other:
			rightOther = lex.Word(item.Other)
		case number, direction:
			if len(numbers) == 0 || numbers[0] < 0 || place == direction && numbers[0] >= api.Dirs {
				return false
			}
			numbers = numbers[1:]
		}
	}
	return rightName && rightOther && len(numbers) == 0
}

// lineOf returns what stands in the line of a right item.
func lineOf(item api.Item) []string {
	line, numbers := []string{forms[item.Kind].word}, item.N
	for _, place := range forms[item.Kind].places {
		switch place {
		case name:
			line = append(line, item.Name)
		case class:
			if item.Name != "" {
				line = append(line, item.Name)
			}
		case other:
			line = append(line, item.Other)
		case number:
			line = append(line, text.Decimal(numbers[0]))
			numbers = numbers[1:]
		case direction:
			line = append(line, directions[numbers[0]])
			numbers = numbers[1:]
		}
	}
	return line
}

// fill adds to an item what a token at a place of its line says, and reports whether the token can stand there.
func fill(item *api.Item, place rune, token api.Token) bool {
	wanted := api.TkWord
	switch place {
	case name, class:
		item.Name = token.Text
	case other:
		item.Other = token.Text
	case number:
		wanted = api.TkNumber
		item.N = append(item.N, token.N)
	case direction:
		d := directionOf(token.Text)
		if d < 0 {
			return false
		}
		item.N = append(item.N, d)
	}
	return token.Kind == wanted
}

// directionOf returns the direction that has a word, or -1.
func directionOf(word string) int {
	for d, w := range directions {
		if w == word {
			return d
		}
	}
	return -1
}
