package atree

import (
	"strings"

	"windlass/api"
	"windlass/chars"
)

// printer writes operations of a fit row.
type printer struct {
	row  []api.Anode
	text strings.Builder
}

// write writes the operation at a place, with all beneath it.
func (p *printer) write(place int) {
	x := p.row[place]
	switch x.Op {
	case number:
		p.put(chars.Text(x.Num))
		return
	case name:
		p.put(x.Name)
		return
	}
	p.put("(")
	switch op := strings.TrimPrefix(x.Op, signed); len(x.Kids) {
	case 1:
		p.put(x.Name, op)
		p.write(x.Kids[0])
	case 2:
		p.write(x.Kids[0])
		p.put(op)
		p.write(x.Kids[1])
	case 3:
		p.write(x.Kids[0])
		p.put(op)
		p.write(x.Kids[1])
		p.put(":")
		p.write(x.Kids[2])
	}
	p.put(")")
}

// put writes texts as they are.
func (p *printer) put(texts ...string) {
	for _, s := range texts {
		p.text.WriteString(s)
	}
}
