package expand

import "athanor/api"

// record is what a define-record-type says.
type record struct {
	kind, maker, test api.Syn
	given             []api.Syn // what the maker is given
	names             []api.Syn // of the fields
	fields            [][]api.Syn
}

// recordOf reads a define-record-type.
func recordOf(args []api.Syn) record {
	must(len(args) > 2 && isIdentifier(args[0]) && isIdentifier(args[2]))
	maker := row(args[1], 1)
	r := record{kind: args[0], maker: maker[0], test: args[2], given: maker[1:]}
	must(isIdentifier(r.maker))
	for _, s := range args[3:] {
		must(isRow(s, 2) || isRow(s, 3))
		r.names = append(r.names, s.Kids[0])
		r.fields = append(r.fields, s.Kids)
	}
	distinct(r.names)
	for _, id := range distinct(r.given) {
		must(has(r.names, id))
	}
	return r
}

// part is one definition that a record's stands for: what a primitive makes of the record's type, unless it is that itself, and of data.
type part struct {
	id    api.Syn
	kind  []api.Syn // the type's name, or nothing
	data  []api.Syn
	maker int
}

// parts are the definitions.
func (r record) parts() []part {
	kind := []api.Syn{r.kind}
	out := []part{
		{r.kind, nil, []api.Syn{r.kind, listOf(r.names...)}, api.PrRecordType},
		{r.maker, kind, []api.Syn{listOf(r.given...)}, api.PrRecordMaker},
		{r.test, kind, nil, api.PrRecordTest},
	}
	for _, f := range r.fields {
		makers := []int{api.PrRecordGetter, api.PrRecordSetter}
		for i, id := range f[1:] {
			must(isIdentifier(id))
			out = append(out, part{id, kind, f[:1], makers[i]})
		}
	}
	return out
}

// part is what a part of a record is defined as.
func (x *expander) part(p part, sc *scope) api.Core {
	out := filled(x.open(api.CApp), x.exprs(p.kind, sc)...)
	for _, d := range p.data {
		out = filled(out, x.constant(d))
	}
	return filled(out, x.prim(p.maker))
}

// forms are the definitions as forms of the outermost level, which have no stamps.
func (r record) forms() []api.Syn {
	var out []api.Syn
	for _, p := range r.parts() {
		call := append([]api.Syn{named(api.Prims[p.maker])}, p.kind...)
		for _, d := range p.data {
			call = append(call, listOf(named(api.Specials[api.SpQuote]), d))
		}
		out = append(out, listOf(named(api.Specials[api.SpDefine]), p.id, listOf(call...)))
	}
	return bareAll(out)
}
