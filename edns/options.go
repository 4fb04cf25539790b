package edns

import (
	"pointsman/api"
	"pointsman/number"
)

// Where an option's parts stand, behind its Code.
const (
	sizeAt = 2
	dataAt = 4
)

// optionsOf tells the options that bytes are, if they are options alone.
func optionsOf(b []byte) ([]api.Option, error) {
	var options []api.Option
	for len(b) > 0 {
		if len(b) < dataAt {
			return nil, api.ErrSyntax
		}
		end := dataAt + number.Of(b[sizeAt:dataAt])
		if len(b) < end {
			return nil, api.ErrSyntax
		}
		options = append(options, api.Option{
			Code: number.Of(b[:sizeAt]),
			Data: append([]byte(nil), b[dataAt:end]...),
		})
		b = b[end:]
	}
	return options, nil
}

// dataOf tells the bytes of options.
func dataOf(options []api.Option) ([]byte, error) {
	size, err := sizeOf(options)
	if err != nil {
		return nil, err
	}
	if size > api.MaxBytes {
		return nil, api.ErrFull
	}
	var b []byte
	for _, o := range options {
		b = number.AppendTwo(b, o.Code)
		b = number.AppendTwo(b, len(o.Data))
		b = append(b, o.Data...)
	}
	return b, nil
}

// sizeOf tells how many bytes options have. It is asked ahead of writing one:
// each option's own errors come ahead of that of all of them, and many options
// may have the same great Data.
func sizeOf(options []api.Option) (int, error) {
	size := 0
	for _, o := range options {
		if !number.Fits(o.Code, number.MaxTwo) {
			return 0, api.ErrRange
		}
		if len(o.Data) > api.MaxBytes {
			return 0, api.ErrFull
		}
		size += dataAt + len(o.Data)
	}
	return size, nil
}
