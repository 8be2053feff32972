package plan

import "slices"

// none is the score where no thresholds fit.
const none = -1

// search are the best thresholds of layers, of which some fit.
func search(n, room int, layers []layer) []int {
	scores := filled(n, room, 0) // of no layers yet
	for left := range scores[n+1] {
		scores[n+1][left] = none
	}
	firsts := make([]table[uint8], len(layers))
	for place, l := range slices.Backward(layers) {
		firsts[place] = filled(n, room, uint8(0))
		l.lead(n, scores, firsts[place])
	}
	return follow(room, layers, firsts)
}

// lead puts a layer ahead of those whose best scores are known: from then on the scores are of it, too, and firsts are its thresholds in them.
func (l layer) lead(n int, scores table[int], firsts table[uint8]) {
	behind := make([]int, len(scores[n]))
	for k := n; k >= 1; k-- {
		copy(behind, scores[k])
		scores.inherit(k)
		firsts.inherit(k)
		width, gain := l.width(k), l.gain(k)
		for left := width; left < len(behind); left++ {
			score := behind[left-width]
			if score != none && score+gain >= scores[k][left] { // where the score is the same, k is the lesser one
				scores[k][left], firsts[k][left] = score+gain, uint8(k)
			}
		}
	}
}

// follow are the thresholds of layers, from the first one on, each by the room that those ahead of it left.
func follow(room int, layers []layer, firsts []table[uint8]) []int {
	ks, least := make([]int, len(layers)), 1
	for place, l := range layers {
		least = int(firsts[place][least][room])
		ks[place] = least
		room -= l.width(least)
	}
	return ks
}
