package pipe

import (
	"truchman/api"
	"truchman/cborin"
	"truchman/cborout"
	"truchman/jsonin"
	"truchman/jsonout"
	"truchman/packin"
	"truchman/packout"
)

// reader has what those of all formats have alike. Their ends are not.
type reader interface {
	Step(b byte) ([]any, api.Errno)
	Held() int
}

// teller is a reader whose end may tell parts.
type teller interface {
	End() ([]any, api.Errno)
}

// asker is a reader whose end only asks whether the document is at its own.
type asker interface {
	End() api.Errno
}

// writer has what those of all formats have alike.
type writer interface {
	Step(v any) (string, api.Errno)
}

// readerOf makes the one of a format that there is.
func readerOf(s api.Setup) reader {
	switch s.From {
	case api.Json:
		return jsonin.New(s.Depth)
	case api.Cbor:
		return cborin.New(s.Depth)
	}
	return packin.New(s.Depth)
}

// writerOf makes the one of a format that there is.
func writerOf(s api.Setup) writer {
	switch s.To {
	case api.Json:
		return new(jsonout.Writer)
	case api.Cbor:
		return new(cborout.Writer)
	}
	return new(packout.Writer)
}

// endOf says to a reader that no more bytes come.
func endOf(r reader) ([]any, api.Errno) {
	if t, is := r.(teller); is {
		return t.End()
	}
	if a, is := r.(asker); is {
		return nil, a.End()
	}
	return nil, api.ErrState
}

// wantsCounts tells whether a writer must know of each container how many
// parts it has where it begins.
func wantsCounts(w writer) bool {
	_, is := w.(*packout.Writer)
	return is
}
