package voucher

import (
	"strings"

	"wayfare/api"
	"wayfare/octet"
)

// The words of a text that are no numbers.
const (
	wordHead    = "p"
	wordVoucher = "voucher"
	wordItem    = "v"
	wordNever   = "inf"
	wordComment = "c"
)

// Show writes a voucher.
func Show(v api.Voucher) (string, api.Errno) {
	if e := showable(v); e != api.OK {
		return "", e
	}
	var out strings.Builder
	line(&out, wordHead, wordVoucher, decimal(len(v.Labels)))
	for i := range len(v.Labels) {
		if v.By[i] == noEdge {
			line(&out, wordItem, decimal(i+1), showLabel(v.Labels[i]))
		} else {
			line(&out, wordItem, decimal(i+1), showLabel(v.Labels[i]), decimal(v.By[i]+1), decimal(v.Depth[i]))
		}
	}
	return out.String(), api.OK
}

// showable tells what is wrong with a voucher that is to be written.
func showable(v api.Voucher) api.Errno {
	n := len(v.Labels)
	switch {
	case len(v.By) != n || len(v.Depth) != n:
		return api.ErrList
	case n > api.MaxVertices:
		return api.ErrSize
	}
	for i := range n {
		switch by, depth := v.By[i], v.Depth[i]; {
		case by < noEdge || by >= api.MaxEdges:
			return api.ErrPlace
		case depth < 0 || by == noEdge && depth != 0:
			return api.ErrOrder
		}
	}
	return api.OK
}

// line writes words as a line.
func line(out *strings.Builder, words ...string) {
	for i, w := range words {
		if i > 0 {
			out.WriteByte(' ')
		}
		out.WriteString(w)
	}
	out.WriteByte('\n')
}

func showLabel(v uint64) string {
	if v == api.Never {
		return wordNever
	}
	return octet.Decimal(v)
}

func decimal(n int) string {
	return octet.Decimal(uint64(n))
}
