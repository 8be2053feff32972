package rows

// grid is rows of cells.
type grid[C any] [][]C

// sizes is how many rows and columns a grid has, and whether its rows are all as long; if not, it has none.
func sizes[C any](g grid[C]) (high, wide int, even bool) {
	if len(g) == 0 {
		return 0, 0, true
	}
	for _, row := range g {
		if len(row) != len(g[0]) {
			return 0, 0, false
		}
	}
	return len(g), len(g[0]), true
}

// blank is a grid of which each row has memory of its own.
func blank[C any](high, wide int) grid[C] {
	g := make(grid[C], high)
	for r := range g {
		g[r] = make([]C, wide)
	}
	return g
}

// cut takes a copy of the columns from one on, up to another one.
func cut[C any](g grid[C], from, to int) grid[C] {
	out := blank[C](len(g), to-from)
	for r, row := range g {
		copy(out[r], row[from:to])
	}
	return out
}

// joined is each row of g with that of h behind it; both are as high.
func joined[C any](g, h grid[C]) grid[C] {
	_, left, _ := sizes(g)
	_, right, _ := sizes(h)
	out := blank[C](len(g), left+right)
	for r, row := range out {
		copy(row, g[r])
		copy(row[left:], h[r])
	}
	return out
}

// turned has the columns as rows.
func turned[C any](g grid[C]) grid[C] {
	high, wide, _ := sizes(g)
	out := blank[C](wide, high)
	for r, row := range g {
		for c, cell := range row {
			out[c][r] = cell
		}
	}
	return out
}
