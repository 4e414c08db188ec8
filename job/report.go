package job

import (
	"strings"

	"wayfare/api"
	"wayfare/octet"
)

// never stands for the label Never.
const never = "-"

// line is words as a line of a report.
func line(words ...string) string {
	return strings.Join(words, " ") + ends
}

// decimal writes a number that is not below 0.
func decimal(n int) string {
	return octet.Decimal(uint64(n))
}

// vertexText writes a vertex of a graph: in texts they are numbered from 1 on.
func vertexText(v int) string {
	return decimal(v + 1)
}

// vertexWords are a word and vertices behind it.
func vertexWords(word string, vertices []int) []string {
	out := []string{word}
	for _, v := range vertices {
		out = append(out, vertexText(v))
	}
	return out
}

// labelLines are the lines of the labels.
func labelLines(labels []uint64) string {
	var out strings.Builder
	for v, label := range labels {
		out.WriteString(line(vertexText(v), labelText(label)))
	}
	return out.String()
}

func labelText(label uint64) string {
	if label == api.Never {
		return never
	}
	return octet.Decimal(label)
}

// thousandths writes a number in thousandths, cut off.
func thousandths(x float64) string {
	return octet.Decimal(uint64(1000 * x))
}

func yesNo(yes bool) string {
	if yes {
		return "yes"
	}
	return "no"
}
