package parse

import "riposte/api"

func (r *reader) item() *knot {
	switch r.now().Text {
	case "import":
		return r.imported()
	case "def":
		return r.defined(api.DefItem)
	case "export":
		return r.defined(api.ExportItem)
	}
	r.fail()
	return nil
}

func (r *reader) imported() *knot {
	k := r.grow(api.ImportItem)
	k.Text = r.name()
	r.pass(":")
	k.add(r.sort())
	r.pass(";")
	return k
}

func (r *reader) defined(kind uint8) *knot {
	k := r.grow(kind)
	k.Text = r.name()
	r.pass("(")
	if !r.is(")") {
		k.add(r.commas(r.param)...)
	}
	r.pass(")", ":")
	k.add(r.base())
	r.pass("=")
	k.add(r.term())
	r.pass(";")
	return k
}

func (r *reader) param() *knot {
	k := r.named(api.ParamNode)
	r.pass(":")
	k.add(r.sort())
	return k
}

// sort reads a type.
func (r *reader) sort() *knot {
	if !r.is("(") {
		return r.base()
	}
	k := r.grow(api.ArrowType)
	k.add(r.commas(r.base)...)
	r.pass(")", "->")
	k.add(r.base())
	return k
}

func (r *reader) base() *knot {
	switch r.now().Text {
	case "com":
		return r.plainBase(1)
	case "bool":
		return r.plainBase(2)
	case "int":
		return r.sizedBase(api.IntType)
	case "cell":
		return r.sizedBase(api.CellType)
	}
	r.fail()
	return nil
}

func (r *reader) plainBase(size int) *knot {
	k := r.grow(api.IntType)
	k.N = size
	return k
}

func (r *reader) sizedBase(kind uint8) *knot {
	k := r.grow(kind)
	k.N = r.number()
	return k
}
