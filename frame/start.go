package frame

import (
	"hourglass/api"
	"hourglass/head"
)

// Start is of which stream, which frame, and until when.
type Start struct{ Stream, Frame, Deadline int }

// header is that of the first datagram.
func (s Start) header(n int, table ...api.Row) api.Head {
	return api.Head{Stream: s.Stream, Frame: s.Frame, N: n, Deadline: s.Deadline, Rows: table}
}

// right says whether its numbers may stand in a right header: then they may in that of the least table.
func (s Start) right() bool { return head.Right(s.header(1, api.Row{K: 1})) }
