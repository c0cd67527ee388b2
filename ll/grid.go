package ll

// grid is rows of one length, with something of one kind in each place.
type grid[C any] [][]C

func gridOf[C any](rows, cols int, cell func(row, col int) C) grid[C] {
	var l grid[C]
	for row := range rows {
		cells := make([]C, cols)
		for col := range cells {
			cells[col] = cell(row, col)
		}
		l = append(l, cells)
	}
	return l
}

// each is a grid like l, in which stands what made makes of what stands in l.
func each[C, D any](l grid[C], made func(cell C) D) grid[D] {
	var all grid[D]
	for _, cells := range l {
		var row []D
		for _, cell := range cells {
			row = append(row, made(cell))
		}
		all = append(all, row)
	}
	return all
}

// gathered is what found finds in the places of l, row by row, and in each by the places.
func gathered[C, D any](l grid[C], found func(row, col int, cell C) []D) []D {
	var all []D
	for row, cells := range l {
		for col, cell := range cells {
			all = append(all, found(row, col, cell)...)
		}
	}
	return all
}
