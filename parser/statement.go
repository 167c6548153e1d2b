package parser

import "stagepost/api"

// oneStatement reads a statement that all tokens are, with one sign ; behind it or none.
func (r *reader) oneStatement() api.Stmt {
	s := r.statement()
	r.took(";")
	r.end()
	return s
}

// allStatements reads statements, parted by signs ; up to the end.
func (r *reader) allStatements() []api.Stmt {
	var l []api.Stmt
	for {
		for r.took(";") {
		}
		if r.over() {
			return l
		}
		r.room(len(l), maxScript)
		l = append(l, r.statement())
		if !r.over() {
			r.want(";")
		}
	}
}

func (r *reader) end() {
	if !r.over() {
		panic(r.fault(api.ErrSyntax))
	}
}

func (r *reader) statement() api.Stmt {
	switch {
	case r.took("select"):
		return r.rows()
	case r.took("insert"):
		return r.insert()
	case r.took("update"):
		return r.update()
	case r.took("delete"):
		return r.deletion()
	case r.took("create"):
		return r.create()
	case r.took("begin"):
		return api.Stmt{Kind: api.Begin}
	case r.took("commit"):
		return api.Stmt{Kind: api.Commit}
	case r.took("rollback"):
		return r.rollback()
	}
	r.want("savepoint")
	return api.Stmt{Kind: api.Savepoint, Name: r.name()}
}

// rows reads a SELECT behind its first word.
func (r *reader) rows() api.Stmt {
	s := api.Stmt{Kind: api.Select, Limit: -1}
	s.Items = list(r, api.MaxItems, r.item)
	r.want("from")
	s.From = r.sources()
	s.Where = r.where()
	if r.took("group") {
		r.want("by")
		s.Group = list(r, api.MaxItems, r.column)
	}
	if r.took("order") {
		r.want("by")
		s.Order = list(r, api.MaxItems, r.order)
	}
	if r.took("limit") {
		s.Limit = int(r.number(api.MaxSeq))
	}
	return s
}

func (r *reader) item() api.Item {
	if r.took("*") {
		return api.Item{All: true}
	}
	return api.Item{Expr: r.expr(), As: r.as()}
}

// as reads another name, if there is one.
func (r *reader) as() string {
	if r.took("as") {
		return r.name()
	}
	return ""
}

// sources reads the sources of a SELECT, each but the first one with what joins it to those ahead.
func (r *reader) sources() []api.Source {
	l := []api.Source{r.source()}
	for r.took("join") {
		r.room(len(l), api.MaxSources)
		s := r.source()
		r.want("on")
		s.On = r.expr()
		l = append(l, s)
	}
	return l
}

func (r *reader) source() api.Source {
	return api.Source{Table: r.name(), As: r.as()}
}

// where reads a condition, if there is one.
func (r *reader) where() api.Expr {
	if r.took("where") {
		return r.expr()
	}
	return api.Expr{}
}

func (r *reader) order() api.Order {
	o := api.Order{Expr: r.expr(), Desc: r.took("desc")}
	if !o.Desc {
		r.took("asc")
	}
	return o
}

// insert reads an INSERT behind its first word.
func (r *reader) insert() api.Stmt {
	r.want("into")
	s := api.Stmt{Kind: api.Insert, Name: r.name()}
	if r.has("(") {
		s.Names = closed(r, api.MaxColumns, r.name)
	}
	r.want("values")
	s.Rows = list(r, api.MaxRows, r.row)
	return s
}

func (r *reader) row() []api.Expr {
	return closed(r, api.MaxColumns, r.expr)
}

// update reads an UPDATE behind its first word.
func (r *reader) update() api.Stmt {
	s := api.Stmt{Kind: api.Update, Name: r.name()}
	r.want("set")
	s.Sets = list(r, api.MaxColumns, r.assign)
	s.Where = r.where()
	return s
}

func (r *reader) assign() api.Assign {
	a := api.Assign{Name: r.name()}
	r.want("=")
	a.Expr = r.expr()
	return a
}

// deletion reads a DELETE behind its first word.
func (r *reader) deletion() api.Stmt {
	r.want("from")
	return api.Stmt{Kind: api.Delete, Name: r.name(), Where: r.where()}
}

// create reads what a CREATE makes.
func (r *reader) create() api.Stmt {
	if r.took("table") {
		return r.table()
	}
	s := api.Stmt{Kind: api.CreateIndex, Unique: r.took("unique")}
	r.want("index")
	s.Name = r.name()
	r.want("on")
	s.Table = r.name()
	s.Names = closed(r, api.MaxKeys, r.name)
	return s
}

// table reads a CREATE TABLE from its name on.
func (r *reader) table() api.Stmt {
	s := api.Stmt{Kind: api.CreateTable, Name: r.name()}
	r.want("(")
	s.Columns = []api.Column{r.define()}
	for r.want(","); !r.took("primary"); r.want(",") {
		r.room(len(s.Columns), api.MaxColumns)
		s.Columns = append(s.Columns, r.define())
	}
	r.want("key")
	s.Key = closed(r, api.MaxKeys, r.name)
	r.want(")")
	return s
}

func (r *reader) define() api.Column {
	c := api.Column{Name: r.name(), Kind: r.kind()}
	if r.took("not") {
		r.want("null")
		c.NotNull = true
	}
	return c
}

func (r *reader) kind() api.Kind {
	for _, k := range kinds {
		if r.took(k.said) {
			return k.kind
		}
	}
	panic(r.fault(api.ErrSyntax))
}

// rollback reads what stands behind ROLLBACK.
func (r *reader) rollback() api.Stmt {
	if r.took("to") {
		return api.Stmt{Kind: api.RollbackTo, Name: r.name()}
	}
	return api.Stmt{Kind: api.Rollback}
}
