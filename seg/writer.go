package seg

import (
	"mezzotint/api"
	"mezzotint/bits"
)

// writer concatenates bit fields by bits.Write, and more of them than one call of it takes.
type writer struct {
	done    []byte
	pending []api.Field
	width   int // bits of all pending fields
}

// add appends a field, which must be one that bits.Write takes.
func (w *writer) add(f api.Field) {
	if len(w.pending) == api.MaxFields {
		w.flush()
	}
	w.pending = append(w.pending, f)
	w.width += f.Width
}

// flush writes the pending fields as far as they fill bytes; the bits behind the last full byte remain pending.
func (w *writer) flush() {
	b, _ := bits.Write(w.pending)
	full, over := w.width/8, w.width%8
	w.done = append(w.done, b[:full]...)
	w.pending, w.width = nil, 0
	if over > 0 {
		w.add(api.Field{Width: over, Value: int(b[full]) >> (8 - over)})
	}
}

// bytes returns all fields; the last byte is filled as by bits.Write.
func (w *writer) bytes() []byte {
	b, _ := bits.Write(w.pending)
	return append(w.done, b...)
}
