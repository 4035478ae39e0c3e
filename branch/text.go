package branch

import (
	"iter"

	"argosy/api"
	"argosy/frame"
)

// pieceSize is how many bytes a text's pieces have, but the last one.
const pieceSize = 1000

// pieces tells a text's pieces.
func pieces(text []byte) iter.Seq[[]byte] {
	return func(yield func(piece []byte) bool) {
		for at := 0; at < len(text); at += pieceSize {
			end := min(at+pieceSize, len(text))
			// Nothing that is appended to a piece may run into the next one.
			if !yield(text[at:end:end]) {
				return
			}
		}
	}
}

// textFrames tells the bytes of a file that holds a text.
func textFrames(text []byte) ([]byte, api.Errno) {
	var all []byte
	for piece := range pieces(text) {
		longer, e := frame.Put(all, piece)
		if e != api.OK {
			return nil, e
		}
		all = longer
	}
	return frame.Put(all, nil)
}

// framesText tells the text of a file, if the file holds a text, and nothing else.
func framesText(b []byte) (string, bool) {
	var text []byte
	last := false
	for piece, end := range frames(b) {
		if len(piece) == 0 && end == len(b) {
			return string(text), true
		}
		if len(piece) == 0 || last || len(piece) > pieceSize {
			break
		}
		text = append(text, piece...)
		last = len(piece) < pieceSize
	}
	return "", false
}
