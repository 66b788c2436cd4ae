package book

import (
	"strconv"
	"strings"

	"foreshore/count"
	"foreshore/mend"
	"foreshore/tide"
	"foreshore/token"
)

// report returns what can be told from the state. As the state stands, no call that it
// makes has an error; the money is only asked if the Book has a truth.
func (s State) report() string {
	var text strings.Builder
	add := func(words ...string) {
		text.WriteString(strings.Join(words, " ") + "\n")
	}
	chairs, _ := s.chairs()
	least, _ := count.Least(s.Row)
	add("chairs", span(chairs).text())
	add("least", strconv.Itoa(least))
	for row := range s.Table.Levels {
		first, _ := tide.Reach(s.Table, row)
		add("wet", span(first).text())
	}
	dry, _ := tide.Dry(s.Table, 0, s.Table.Last)
	add("dry", strconv.Itoa(dry))
	left := s.left()
	add(append([]string{"leave"}, left...)...)
	if len(left) == 0 {
		money, _ := s.money()
		mixed, _ := token.Mixed(s.Book)
		add("money", span(money).text())
		add("mixed", span(mixed).text())
	}
	whole, _ := mend.Bounds(s.Yard)
	_, sure, _ := mend.Sure(s.Yard)
	add("whole", span(whole).text())
	add("sure", strconv.Itoa(sure))
	return text.String()
}

// left returns the numbers of the lines of the Book that have to be left out.
func (s State) left() []string {
	lines, _ := token.Leave(s.Book)
	var list []string
	for _, line := range lines {
		list = append(list, strconv.Itoa(line))
	}
	return list
}
