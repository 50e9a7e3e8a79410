package draft

import (
	"fmt"
	"math/rand"
	"slices"
	"testing"

	"taquin/api"
)

// P10.3: nothing that was passed in is changed, and nothing that was returned is kept.

// manySources are sources with errors and without.
func manySources() []string {
	l := []string{"", "\n", "x", "deck\nrow", "zone 5", "-", "deck\ndeck\ndeck\ndeck\ndeck", "row \"a\""}
	for _, text := range rightLines() {
		l = append(l, text, "deck\n"+text+"\n"+text, "deck\nrow \"a\"\ndeck\nrow \"b\"\nrow \"c\"\nrobot 1 2 3 4\n"+text)
	}
	rnd := rand.New(rand.NewSource(16))
	for i := range 200 {
		l = append(l, spoilTokens(rnd, Print(drawDraft(rnd)), i%2))
	}
	return l
}

// callAll calls all functions, and writes down what they return.
func callAll(src string) string {
	d, err, line := Parse(src)
	other := clone(d)
	other.Items = append(other.Items, aRobot(1, 0, 0, 0, 0))
	return fmt.Sprintf("%s %d %d %t %q %t %t", whole(d), err, line, Right(d), Print(d), Same(d, d), Same(d, other))
}

func TestTheSameAgain(t *testing.T) {
	l := manySources()
	var before []string
	for _, src := range l {
		before = append(before, callAll(src))
	}
	slices.Reverse(before)
	slices.Reverse(l)
	for i, src := range l {
		if callAll(src) != before[i] {
			t.Error(brief(src))
		}
	}
}

// spoilers returns functions each of which changes all elements of one list of a draft, also those behind its end.
func spoilers(d api.Draft) map[string]func() {
	m := map[string]func(){
		"Decks": func() { spoil(d.Decks, []string{"spoiled"}) },
		"Items": func() { spoil(d.Items, api.Item{Kind: 77, Name: "spoiled"}) },
	}
	for i := range d.Decks {
		rows := d.Decks[i]
		m[fmt.Sprint("Decks ", i)] = func() { spoil(rows, "spoiled") }
	}
	for i := range d.Items {
		n := d.Items[i].N
		m[fmt.Sprint("Items ", i)] = func() { spoil(n, -77) }
	}
	return m
}

func spoil[E any](l []E, with E) {
	l = l[:cap(l)]
	for i := range l {
		l[i] = with
	}
}

// listsOf writes down the lists of a draft, each for itself.
func listsOf(d api.Draft) map[string]func() string {
	m := map[string]func() string{}
	for i := range d.Decks {
		rows := d.Decks[i]
		m[fmt.Sprint("Decks ", i)] = func() string { return fmt.Sprintf("%q", rows) }
	}
	for i := range d.Items {
		n := d.Items[i].N
		m[fmt.Sprint("Items ", i)] = func() string { return fmt.Sprint(n) }
	}
	return m
}

func TestDraftsAreFresh(t *testing.T) {
	for _, src := range manySources() {
		a, err, line := Parse(src)
		want := clone(a)
		b, _, _ := Parse(src)
		for _, change := range spoilers(a) {
			change()
		}
		if whole(b) != whole(want) {
			t.Errorf("%s: %s", brief(src), brief(whole(b)))
		}
		expect(t, src, want, err, line)
	}
}

func TestListsOfADraftShareNothing(t *testing.T) {
	for _, src := range manySources() {
		first, _, _ := Parse(src)
		for which := range spoilers(first) {
			d, _, _ := Parse(src)
			lists := listsOf(d)
			want := map[string]string{}
			for name, list := range lists {
				want[name] = list()
			}
			spoilers(d)[which]()
			for name, list := range lists {
				if name != which && list() != want[name] {
					t.Errorf("%s: %s with %s", brief(src), name, which)
				}
			}
		}
	}
}

// behind returns a draft with the same elements, and further ones behind the end of each list, which nobody may read or write.
func behind(d api.Draft) api.Draft {
	d = clone(d)
	for i, rows := range d.Decks {
		d.Decks[i] = append(rows, "behind", "behind")[:len(rows)]
	}
	for i, item := range d.Items {
		d.Items[i].N = append(item.N, -7, 7, 7)[:len(item.N)]
	}
	d.Decks = append(d.Decks, []string{"behind"}, nil)[:len(d.Decks)]
	d.Items = append(d.Items, api.Item{Kind: 77, Name: "behind"}, api.Item{N: []int{-1}})[:len(d.Items)]
	return d
}

// further writes down a draft with what is behind the ends of its lists.
func further(d api.Draft) string {
	s := ""
	for _, rows := range d.Decks[:cap(d.Decks)] {
		s += fmt.Sprintf("%q", rows[:cap(rows)])
	}
	for _, item := range d.Items[:cap(d.Items)] {
		s += fmt.Sprintf("%d %d %q %q %d", item.Kind, item.Line, item.Name, item.Other, item.N[:cap(item.N)])
	}
	return s
}

func TestArgumentsAreLeft(t *testing.T) {
	drafts := append(different()[:30], api.Draft{Items: []api.Item{aOneway(1, 0, 0, 0, 6)}})
	rnd := rand.New(rand.NewSource(17))
	for range 300 {
		drafts = append(drafts, drawDraft(rnd))
	}
	for i, d := range drafts {
		a, b := behind(d), behind(drafts[i/2])
		beforeA, beforeB := further(a), further(b)
		right, text, same := Right(a), Print(a), Same(a, b)
		if further(a) != beforeA || further(b) != beforeB {
			t.Errorf("%s, %s", brief(whole(a)), brief(whole(b)))
		}
		if right != Right(clone(d)) || text != Print(clone(d)) || same != Same(clone(d), clone(drafts[i/2])) || !Same(a, d) {
			t.Errorf("%s: %t %s", brief(whole(d)), right, brief(text))
		}
		for _, change := range spoilers(a) {
			change()
		}
		if text != Print(d) {
			t.Errorf("%s: %s", brief(whole(d)), brief(text))
		}
	}
}
