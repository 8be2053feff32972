package plan

import "hourglass/strip"

// layer is what a layer needs of a body's room, and what it adds to the score, by its threshold.
type layer struct {
	width, gain func(k int) int
}

// layers are those of a task that is right.
func (t Task) layers() []layer {
	out := make([]layer, len(t.Lens))
	for place, long := range t.Lens {
		out[place] = layer{
			width: func(k int) int {
				width, _ := strip.Width(long, k) // of lengths and thresholds of a right task there is no error
				return width
			},
			gain: func(k int) int { return t.Worths[place] * t.Weights[k] },
		}
	}
	return out
}
