package order

// ahead tells whether a is to be taken ahead of b.
func (o *Order) ahead(a, b int) bool {
	if o.activity[a] != o.activity[b] {
		return o.activity[a] > o.activity[b]
	}
	return a < b
}

func (o *Order) swap(i, j int) {
	o.heap[i], o.heap[j] = o.heap[j], o.heap[i]
	o.place[o.heap[i]] = i
	o.place[o.heap[j]] = j
}

// lift brings the variable at a place up to where it belongs.
func (o *Order) lift(at int) {
	for at > 0 && o.ahead(o.heap[at], o.heap[(at-1)/2]) {
		o.swap(at, (at-1)/2)
		at = (at - 1) / 2
	}
}

// sink brings the variable at a place down to where it belongs.
func (o *Order) sink(at int) {
	for {
		first := at
		for _, below := range [2]int{2*at + 1, 2*at + 2} {
			if below < len(o.heap) && o.ahead(o.heap[below], o.heap[first]) {
				first = below
			}
		}
		if first == at {
			return
		}
		o.swap(at, first)
		at = first
	}
}
