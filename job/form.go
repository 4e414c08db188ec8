package job

import (
	"math"
	"strings"

	"wayfare/api"
	"wayfare/octet"
)

// part is a part of a command's form: it reads its words into an order, and takes what it writes out of one.
type part interface {
	read(r *reader, o *api.Order) error
	write(o *api.Order) (string, error)
}

// form is what stands behind the first word of a command.
type form []part

func (f form) read(r *reader, o *api.Order) error {
	for _, p := range f {
		if err := p.read(r, o); err != nil {
			return err
		}
	}
	return nil
}

func (f form) write(o *api.Order) (string, error) {
	var out strings.Builder
	for _, p := range f {
		text, err := p.write(o)
		if err != nil {
			return "", err
		}
		out.WriteString(text)
	}
	return out.String(), nil
}

// showOrder writes a command.
func showOrder(o api.Order) (string, error) {
	c, known := commandOf(o.Kind)
	if !known {
		return "", unsaid()
	}
	text, err := c.write(&o)
	if err != nil {
		return "", err
	}
	if !isEmpty(o) { // its form has no words for what is left
		return "", unsaid()
	}
	return firstWords[o.Kind] + text + ends, nil
}

// unsaid is the refusal of what has no form.
func unsaid() error {
	return refusal{number: api.ErrCommand}
}

// isEmpty tells whether nothing is left of an order that was written.
func isEmpty(o api.Order) bool {
	return o.Name == "" && o.Text == "" && len(o.Nums) == 0 && len(o.Picks) == 0 && isEmptyPlan(o.Plan)
}

// fixed is a word that is always the same.
type fixed string

func (f fixed) read(r *reader, o *api.Order) error {
	_, err := r.choice(string(f))
	return err
}

func (f fixed) write(o *api.Order) (string, error) {
	return " " + string(f), nil
}

// name is a name.
type name struct{}

func (name) read(r *reader, o *api.Order) error {
	word, err := r.word()
	if err != nil {
		return err
	}
	if !isName(word) {
		return r.refuse(api.ErrName)
	}
	o.Name = strings.Clone(word)
	return nil
}

func (name) write(o *api.Order) (string, error) {
	word := o.Name
	if !isName(word) {
		return "", unsaid()
	}
	o.Name = ""
	return " " + word, nil
}

// number is a number that is at most so great.
type number uint64

// Numbers of an order.
const (
	smallNumber number = math.MaxInt32
	anyNumber   number = math.MaxUint64
)

func (most number) read(r *reader, o *api.Order) error {
	v, err := r.figure(uint64(most))
	if err != nil {
		return err
	}
	o.Nums = append(o.Nums, v)
	return nil
}

func (most number) write(o *api.Order) (string, error) {
	if len(o.Nums) == 0 || o.Nums[0] > uint64(most) {
		return "", unsaid()
	}
	v := o.Nums[0]
	o.Nums = o.Nums[1:]
	return " " + octet.Decimal(v), nil
}

// draws are words to draw, up to the line's end.
type draws struct{}

func (draws) read(r *reader, o *api.Order) error {
	for r.more() {
		v, err := r.figure(uint64(anyNumber))
		if err != nil {
			return err
		}
		o.Nums = append(o.Nums, v)
	}
	return nil
}

func (draws) write(o *api.Order) (string, error) {
	var out strings.Builder
	for _, v := range o.Nums {
		out.WriteString(" " + octet.Decimal(v))
	}
	o.Nums = nil
	return out.String(), nil
}

// picks are picks, up to the line's end.
type picks struct{}

func (picks) read(r *reader, o *api.Order) error {
	for r.more() {
		v, err := r.figure(uint64(smallNumber))
		if err != nil {
			return err
		}
		o.Picks = append(o.Picks, int(v))
	}
	return nil
}

func (picks) write(o *api.Order) (string, error) {
	var out strings.Builder
	for _, w := range o.Picks {
		if w < 0 || w > int(smallNumber) {
			return "", unsaid()
		}
		out.WriteString(" " + decimal(w))
	}
	o.Picks = nil
	return out.String(), nil
}

// lines are lines of another text, and the one that ends them.
type lines struct{}

func (lines) read(r *reader, o *api.Order) error {
	if err := r.end(); err != nil {
		return err
	}
	text, err := r.text()
	o.Text = text
	return err
}

func (lines) write(o *api.Order) (string, error) {
	text := o.Text
	if !isText(text) {
		return "", unsaid()
	}
	o.Text = ""
	return ends + text + lastLine, nil
}

// isText tells whether lines can be written as they stand, and read again.
func isText(text string) bool {
	if text != "" && !strings.HasSuffix(text, ends) || strings.Contains(text, unread+ends) {
		return false
	}
	for l := range strings.Lines(text) {
		if isLast(strings.TrimSuffix(l, ends)) {
			return false
		}
	}
	return true
}
