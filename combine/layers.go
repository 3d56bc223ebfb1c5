package combine

// layers is a list that grows level upon level.
type layers[T any] struct {
	list  []T
	marks []int // by level: how long the list was when it was opened
}

func (l *layers[T]) open() {
	l.marks = append(l.marks, len(l.list))
}

func (l *layers[T]) add(item T) {
	l.list = append(l.list, item)
}

// back takes the last levels back, and tells what came in them: to be looked at before something else comes.
func (l *layers[T]) back(levels int) []T {
	first := len(l.marks) - levels
	length := l.marks[first]
	gone := l.list[length:]
	l.list, l.marks = l.list[:length], l.marks[:first]
	return gone
}
