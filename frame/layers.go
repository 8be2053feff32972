package frame

import (
	"hourglass/api"
	"hourglass/plan"
	"hourglass/size"
)

// task asks for layers' best thresholds.
func task(b size.Bounds, weights []int, layers ...api.Layer) plan.Task {
	t := plan.Task{Bounds: b, Weights: weights}
	for _, layer := range layers {
		t.Lens = append(t.Lens, len(layer.Bytes))
		t.Worths = append(t.Worths, layer.Worth)
	}
	return t
}

// contents are layers without their worths.
func contents(layers ...api.Layer) [][]byte {
	var all [][]byte
	for _, layer := range layers {
		all = append(all, layer.Bytes)
	}
	return all
}

// rows are a table of layers and thresholds, which are as many.
func rows(layers [][]byte, ks []int) []api.Row {
	table := make([]api.Row, len(ks))
	for place, k := range ks {
		table[place] = api.Row{K: k, Len: len(layers[place])}
	}
	return table
}
