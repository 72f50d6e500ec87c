package font

import (
	"math"
	"reflect"
	"slices"
	"strconv"
	"strings"
	"testing"

	"typecase/api"
)

// clauses collects the clauses of the chapter that a font breaks, by names of the tests' own.
type clauses struct {
	font   api.Font
	broken []string
}

func (c *clauses) want(clause string, holds bool) {
	if !holds && !slices.Contains(c.broken, clause) {
		c.broken = append(c.broken, clause)
	}
}

// faults returns the clauses that f breaks, in the order of the alphabet, with commas between.
func faults(f api.Font) string {
	c := &clauses{font: f}
	c.glyphs()
	c.maps()
	c.lookups()
	c.feats()
	slices.Sort(c.broken)
	return strings.Join(c.broken, ", ")
}

func measure(n int) bool { return n >= -1048576 && n <= 1048576 }

func anchor(a api.Anchor) bool { return measure(a.X) && measure(a.Y) }

func value(v api.Value) bool { return measure(v.Adv) && measure(v.DX) && measure(v.DY) }

func (c *clauses) exists(glyph int) bool { return glyph >= 0 && glyph < len(c.font.Glyphs) }

// cover holds the glyphs to what a cover is.
func (c *clauses) cover(name string, glyphs []int) {
	c.want(name+" many", len(glyphs) <= 4096)
	for i, glyph := range glyphs {
		c.want(name+" glyph", c.exists(glyph))
		c.want(name+" order", i == 0 || glyphs[i-1] < glyph)
	}
}

// covers holds the lists to what from least to 16 covers are.
func (c *clauses) covers(name string, lists [][]int, least int) {
	c.want(name+" count", len(lists) >= least && len(lists) <= 16)
	for _, list := range lists {
		c.cover(name, list)
	}
}

func (c *clauses) glyphs() {
	c.want("em", c.font.Em >= 1 && c.font.Em <= 16384)
	c.want("glyphs", len(c.font.Glyphs) >= 1 && len(c.font.Glyphs) <= 4096)
	for _, glyph := range c.font.Glyphs {
		c.want("glyph adv", measure(glyph.Adv))
		c.want("glyph kind", glyph.Kind == 0 || glyph.Kind == 1 || glyph.Kind == 2 || glyph.Kind == 3)
		c.want("glyph attach", glyph.Attach >= 0 && glyph.Attach < 256)
		c.want("carets many", len(glyph.Carets) < 16)
		c.want("carets kind", glyph.Kind == 2 || len(glyph.Carets) == 0)
		for i, caret := range glyph.Carets {
			c.want("caret", measure(caret))
			c.want("carets order", i == 0 || glyph.Carets[i-1] < caret)
		}
	}
}

func (c *clauses) maps() {
	c.want("maps many", len(c.font.Maps) <= 4096)
	for i, m := range c.font.Maps {
		c.want("map code", m.Code >= 0 && m.Code <= 0xD7FF || m.Code >= 0xE000 && m.Code <= 0x10FFFF)
		c.want("map glyph", c.exists(m.Glyph))
		c.want("maps order", i == 0 || c.font.Maps[i-1].Code < m.Code)
	}
	c.covers("sets", c.font.Sets, 0)
}

func (c *clauses) lookups() {
	c.want("lookups many", len(c.font.Lookups) <= 64)
	for _, l := range c.font.Lookups {
		c.want("lookup kind", l.Kind >= 1 && l.Kind <= 12)
		c.want("flags", l.Flags >= 0 && l.Flags <= 65535)
		low := l.Flags % 256
		if low < 0 {
			low += 256
		}
		c.want("flags low", low < 32 && low%2 == 0)
		if low/16%2 == 1 {
			c.want("set", l.Set >= 0 && l.Set < len(c.font.Sets))
		} else {
			c.want("set", l.Set == 0)
		}
		c.want("subs many", len(l.Subs) <= 64)
		for _, s := range l.Subs {
			c.sub(l.Kind, s)
		}
	}
}

// belongs tells which fields of a subtable belong to each kind of lookup.
func belongs() map[int]string {
	return map[int]string{
		1: "Cover To", 2: "Cover To", 3: "Cover Ligs", 4: "Back In Ahead Nests", 5: "Cover To Back Ahead", 6: "Cover Values",
		7: "Pairs", 8: "Curs", 9: "Marks Hosts", 10: "Marks Hosts", 11: "Marks Hosts", 12: "Back In Ahead Nests",
	}
}

func (c *clauses) sub(kind int, s api.Sub) {
	fields := reflect.ValueOf(s)
	for i := range fields.NumField() {
		if !slices.Contains(strings.Fields(belongs()[kind]), fields.Type().Field(i).Name) {
			c.want("field", fields.Field(i).Len() == 0)
		}
	}
	switch kind {
	case 1, 2, 5:
		c.to(kind, s)
	case 3:
		c.ligs(s)
	case 4, 12:
		c.covers("in", s.In, 1)
		c.nests(kind, s)
	case 6:
		c.cover("cover", s.Cover)
		c.want("values count", len(s.Values) == len(s.Cover))
		for _, v := range s.Values {
			c.want("value", value(v))
		}
	case 7:
		c.pairs(s.Pairs)
	case 8:
		c.curs(s.Curs)
	case 9, 10, 11:
		c.marks(s.Marks)
		c.hosts(kind, s.Hosts)
	}
	if kind == 4 || kind == 5 || kind == 12 {
		c.covers("back", s.Back, 0)
		c.covers("ahead", s.Ahead, 0)
	}
}

func (c *clauses) to(kind int, s api.Sub) {
	c.cover("cover", s.Cover)
	c.want("to count", len(s.To) == len(s.Cover))
	for _, to := range s.To {
		if kind == 2 {
			c.want("to length", len(to) <= 16)
		} else {
			c.want("to length", len(to) == 1)
		}
		for _, glyph := range to {
			c.want("to glyph", c.exists(glyph))
		}
	}
}

func (c *clauses) ligs(s api.Sub) {
	c.cover("cover", s.Cover)
	c.want("ligs count", len(s.Ligs) == len(s.Cover))
	all := slices.Concat(s.Ligs...)
	c.want("ligs many", len(all) <= 4096)
	for _, lig := range all {
		c.want("parts", len(lig.Parts) >= 1 && len(lig.Parts) <= 15)
		c.want("lig glyph", c.exists(lig.Glyph))
		for _, part := range lig.Parts {
			c.want("part", c.exists(part))
		}
	}
}

func (c *clauses) nests(kind int, s api.Sub) {
	c.want("nests many", len(s.Nests) <= 16)
	for _, n := range s.Nests {
		c.want("nest at", n.At >= 0 && n.At < len(s.In))
		there := n.Lookup >= 0 && n.Lookup < len(c.font.Lookups)
		c.want("nest lookup", there)
		if there {
			other := c.font.Lookups[n.Lookup].Kind
			c.want("nest sort", other >= 1 && other <= 12 && (other <= 5) == (kind <= 5))
		}
	}
}

func (c *clauses) pairs(pairs []api.Pair) {
	c.want("pairs many", len(pairs) <= 4096)
	for i, p := range pairs {
		c.want("pair glyph", c.exists(p.First) && c.exists(p.Second))
		c.want("pair value", value(p.A) && value(p.B))
		if i > 0 {
			before := pairs[i-1]
			c.want("pairs order", before.First < p.First || before.First == p.First && before.Second < p.Second)
		}
	}
}

// place holds an anchor that is present or not to what it may be.
func (c *clauses) place(name string, has bool, a api.Anchor) {
	c.want(name+" anchor", anchor(a))
	c.want(name+" absent", has || a.X == 0 && a.Y == 0)
}

func (c *clauses) curs(curs []api.Curs) {
	c.want("curs many", len(curs) <= 4096)
	for i, x := range curs {
		c.want("curs glyph", c.exists(x.Glyph))
		c.place("curs", x.HasEntry, x.Entry)
		c.place("curs", x.HasExit, x.Exit)
		c.want("curs order", i == 0 || curs[i-1].Glyph < x.Glyph)
	}
}

func (c *clauses) marks(marks []api.MarkAt) {
	c.want("marks many", len(marks) <= 4096)
	for i, m := range marks {
		c.want("mark glyph", c.exists(m.Glyph))
		c.want("mark class", m.Class >= 0 && m.Class < 16)
		c.want("mark anchor", anchor(m.At))
		c.want("marks order", i == 0 || marks[i-1].Glyph < m.Glyph)
	}
}

func (c *clauses) hosts(kind int, hosts []api.Host) {
	c.want("hosts many", len(hosts) <= 4096)
	for i, h := range hosts {
		c.want("host glyph", c.exists(h.Glyph))
		c.want("hosts order", i == 0 || hosts[i-1].Glyph < h.Glyph)
		if kind == 10 {
			c.want("host parts", len(h.Spots) >= 1 && len(h.Spots) <= 16)
		} else {
			c.want("host parts", len(h.Spots) == 1)
		}
		for _, spots := range h.Spots {
			c.want("spots many", len(spots) <= 16)
			for _, spot := range spots {
				c.place("spot", spot.Has, spot.At)
			}
		}
	}
}

func (c *clauses) feats() {
	c.want("feats many", len(c.font.Feats) <= 64)
	type key struct {
		tag    string
		script int
	}
	count := map[key]int{}
	for _, feat := range c.font.Feats {
		c.want("tag", len(feat.Tag) == 4 && strings.IndexFunc(feat.Tag, func(r rune) bool { return r < '!' || r > '~' }) < 0)
		c.want("script", feat.Script >= -1 && feat.Script < 12)
		c.want("feat many", len(feat.Lookups) <= 64)
		for i, lookup := range feat.Lookups {
			c.want("feat lookup", lookup >= 0 && lookup < len(c.font.Lookups))
			c.want("feat order", i == 0 || feat.Lookups[i-1] < lookup)
		}
		count[key{feat.Tag, feat.Script}]++
		c.want("feat twice", count[key{feat.Tag, feat.Script}] == 1)
	}
}

// order tells in which order the encoding has the fields of each type, by their places in the type.
var order = map[reflect.Type][]int{
	reflect.TypeFor[api.Font]():   fieldsOf[api.Font]("Em Glyphs Maps Lookups Feats Sets"),
	reflect.TypeFor[api.Info]():   fieldsOf[api.Info]("Adv Kind Attach Carets"),
	reflect.TypeFor[api.Map]():    fieldsOf[api.Map]("Code Glyph"),
	reflect.TypeFor[api.Lookup](): fieldsOf[api.Lookup]("Kind Flags Set Subs"),
	reflect.TypeFor[api.Sub]():    fieldsOf[api.Sub]("Cover To Ligs Back In Ahead Nests Values Pairs Curs Marks Hosts"),
	reflect.TypeFor[api.Lig]():    fieldsOf[api.Lig]("Parts Glyph"),
	reflect.TypeFor[api.Nest]():   fieldsOf[api.Nest]("At Lookup"),
	reflect.TypeFor[api.Value]():  fieldsOf[api.Value]("Adv DX DY"),
	reflect.TypeFor[api.Pair]():   fieldsOf[api.Pair]("First Second A B"),
	reflect.TypeFor[api.Curs]():   fieldsOf[api.Curs]("Glyph HasEntry HasExit Entry Exit"),
	reflect.TypeFor[api.MarkAt](): fieldsOf[api.MarkAt]("Glyph Class At"),
	reflect.TypeFor[api.Host]():   fieldsOf[api.Host]("Glyph Spots"),
	reflect.TypeFor[api.Spot]():   fieldsOf[api.Spot]("Has At"),
	reflect.TypeFor[api.Anchor](): fieldsOf[api.Anchor]("X Y"),
	reflect.TypeFor[api.Feat]():   fieldsOf[api.Feat]("Tag Script Lookups"),
}

// fieldsOf returns the places of the fields of that name, which are all that the type has.
func fieldsOf[T any](names string) []int {
	var places []int
	for name := range strings.FieldsSeq(names) {
		field, ok := reflect.TypeFor[T]().FieldByName(name)
		if !ok {
			panic(name)
		}
		places = append(places, field.Index[0])
	}
	if len(places) != reflect.TypeFor[T]().NumField() {
		panic(names)
	}
	return places
}

// number is a number's encoding.
func number(n int) []byte {
	unsigned := 2 * n
	if n < 0 {
		unsigned = -2*n - 1
	}
	var groups []byte
	for unsigned >= 128 {
		groups = append(groups, byte(unsigned%128+128))
		unsigned /= 128
	}
	return append(groups, byte(unsigned))
}

// tokens are the numbers and the Tags of a value's encoding.
func tokens(v reflect.Value) [][]byte {
	switch v.Kind() {
	case reflect.Struct:
		var list [][]byte
		for _, i := range order[v.Type()] {
			list = append(list, tokens(v.Field(i))...)
		}
		return list
	case reflect.Slice:
		list := [][]byte{number(v.Len())}
		for i := range v.Len() {
			list = append(list, tokens(v.Index(i))...)
		}
		return list
	case reflect.String:
		return [][]byte{[]byte(v.String())}
	case reflect.Bool:
		if v.Bool() {
			return [][]byte{number(1)}
		}
		return [][]byte{number(0)}
	}
	return [][]byte{number(int(v.Int()))}
}

// fontTokens are those of a font, behind the first four bytes.
func fontTokens(f api.Font) [][]byte { return tokens(reflect.ValueOf(f)) }

// encoding is the encoding of a font, also of one that is not valid.
func encoding(f api.Font) []byte {
	return slices.Concat([]byte("TCF1"), slices.Concat(fontTokens(f)...))
}

// decoder is a plain reader of the encoding, which panics with the first error.
type decoder struct {
	bytes  []byte
	at     int
	excess bool // there was a number that its field can't hold
}

func (d *decoder) byte() byte {
	if d.at >= len(d.bytes) {
		panic(api.ErrEnd)
	}
	d.at++
	return d.bytes[d.at-1]
}

func (d *decoder) want(holds bool) {
	if !holds {
		panic(api.ErrForm)
	}
}

func (d *decoder) number() int {
	var groups []byte
	for len(groups) == 0 || groups[len(groups)-1] > 127 {
		groups = append(groups, d.byte())
		d.want(len(groups) < 6)
	}
	d.want(len(groups) == 1 || groups[len(groups)-1] != 0)
	unsigned := 0
	for _, group := range slices.Backward(groups) {
		unsigned = unsigned*128 + int(group%128)
	}
	if unsigned%2 == 1 {
		return -(unsigned + 1) / 2
	}
	return unsigned / 2
}

func (d *decoder) value(v reflect.Value) {
	switch v.Kind() {
	case reflect.Struct:
		for _, i := range order[v.Type()] {
			d.value(v.Field(i))
		}
	case reflect.Slice:
		length := d.number()
		d.want(length >= 0 && length <= 65536)
		for i := range length {
			v.Set(reflect.Append(v, reflect.Zero(v.Type().Elem())))
			d.value(v.Index(i))
		}
	case reflect.String:
		tag := ""
		for range 4 {
			b := d.byte()
			d.want(b > 32 && b < 127)
			tag += string(rune(b))
		}
		v.SetString(tag)
	case reflect.Bool:
		n := d.number()
		d.want(n == 0 || n == 1)
		v.SetBool(n > 0)
	default:
		n := d.number()
		d.excess = d.excess || v.OverflowInt(int64(n))
		v.SetInt(int64(n))
	}
}

// decoded is what Decode is asked for.
func decoded(b []byte) (f api.Font, e api.Errno) {
	defer func() {
		if fault := recover(); fault != nil {
			f, e = api.Font{}, fault.(api.Errno)
		}
	}()
	d := &decoder{bytes: b}
	for _, want := range []byte{'T', 'C', 'F', '1'} {
		d.want(d.byte() == want)
	}
	d.value(reflect.ValueOf(&f).Elem())
	d.want(d.at == len(b))
	if d.excess || faults(f) != "" {
		return api.Font{}, api.ErrFont
	}
	return f, api.OK
}

// told is all that a value holds, as a text; with what lies behind its lists in memory if room is true.
func told(x any, room bool) string {
	var text []byte
	var tell func(v reflect.Value)
	tell = func(v reflect.Value) {
		switch v.Kind() {
		case reflect.Struct:
			for i := range v.NumField() {
				tell(v.Field(i))
			}
		case reflect.Slice:
			text = strconv.AppendInt(append(text, '['), int64(v.Len()), 10)
			if room {
				v = v.Slice(0, v.Cap())
			}
			for i := range v.Len() {
				tell(v.Index(i))
			}
		case reflect.String:
			text = strconv.AppendQuote(text, v.String())
		case reflect.Bool:
			text = strconv.AppendBool(text, v.Bool())
		case reflect.Uint8:
			text = strconv.AppendUint(append(text, ' '), v.Uint(), 10)
		default:
			text = strconv.AppendInt(append(text, ' '), v.Int(), 10)
		}
	}
	tell(reflect.ValueOf(x))
	return string(text)
}

// parts calls visit with each value within v, v itself included.
func parts(v reflect.Value, visit func(v reflect.Value)) {
	visit(v)
	switch v.Kind() {
	case reflect.Struct:
		for i := range v.NumField() {
			parts(v.Field(i), visit)
		}
	case reflect.Slice:
		for i := range v.Len() {
			parts(v.Index(i), visit)
		}
	}
}

// fill makes something of v: numbers and lists by what next returns, to the given depth.
func fill(v reflect.Value, next func(int) int, depth int) {
	switch v.Kind() {
	case reflect.Struct:
		for i := range v.NumField() {
			fill(v.Field(i), next, depth)
		}
	case reflect.Slice:
		n := next(3)
		if depth == 0 {
			n = 0
		}
		v.Set(reflect.MakeSlice(v.Type(), n, n+next(3)))
		for i := range v.Cap() {
			fill(v.Slice(0, v.Cap()).Index(i), next, depth-1)
		}
	case reflect.String:
		v.SetString([]string{"", "kern", "liga", "lig", "ligas", "k\x00rn", "k rn", "\xff\xfe~!"}[next(8)])
	case reflect.Bool:
		v.SetBool(next(2) == 0)
	case reflect.Int32:
		v.SetInt([]int64{math.MinInt32, -1, 0, 1, 'a', 0xD800, 0x10FFFF, 0x110000, math.MaxInt32}[next(9)])
	default:
		v.SetInt([]int64{math.MinInt, math.MinInt + 1, -1048577, -1048576, -1, 0, 1, 2, 3, 4, 5, 8, 12, 16, 1048576, math.MaxInt - 1, math.MaxInt}[next(17)])
	}
}

// garbage is a font of anything at all.
func garbage(next func(int) int) api.Font {
	var f api.Font
	fill(reflect.ValueOf(&f).Elem(), next, 1+next(6))
	return f
}

// deep is a copy of a value, whose lists have so much room behind them, full of something.
func deep[T any](x T, room int) T {
	var copied func(v reflect.Value) reflect.Value
	copied = func(v reflect.Value) reflect.Value {
		switch v.Kind() {
		case reflect.Struct:
			c := reflect.New(v.Type()).Elem()
			for i := range v.NumField() {
				c.Field(i).Set(copied(v.Field(i)))
			}
			return c
		case reflect.Slice:
			if v.Len()+room == 0 {
				return reflect.Zero(v.Type())
			}
			c := reflect.MakeSlice(v.Type(), v.Len()+room, v.Len()+room)
			for i := range c.Len() {
				if i < v.Len() {
					c.Index(i).Set(copied(v.Index(i)))
				} else if kind := c.Index(i).Kind(); kind != reflect.Uint8 {
					fill(c.Index(i), func(n int) int { return n - 1 }, 1)
				} else {
					c.Index(i).SetUint(0xA5)
				}
			}
			return c.Slice(0, v.Len())
		case reflect.String:
			return reflect.ValueOf(strings.Clone(v.String()))
		}
		return v
	}
	return copied(reflect.ValueOf(x)).Interface().(T)
}

// spoil writes to all memory of the lists within x, also to the room behind them.
func spoil(x any) {
	parts(reflect.ValueOf(x), func(v reflect.Value) {
		if v.Kind() != reflect.Slice {
			return
		}
		whole := v.Slice(0, v.Cap())
		for i := range whole.Len() {
			switch e := whole.Index(i); e.Kind() {
			case reflect.Slice: // its own elements come later
			case reflect.Uint8:
				e.SetUint(^e.Uint() & 255)
			case reflect.Int, reflect.Int32:
				e.SetInt(int64(^int32(e.Int())))
			case reflect.Struct:
				spoilFields(e)
			}
		}
	})
}

func spoilFields(v reflect.Value) {
	for i := range v.NumField() {
		switch field := v.Field(i); field.Kind() {
		case reflect.Int, reflect.Int32:
			field.SetInt(int64(^int32(field.Int())))
		case reflect.Bool:
			field.SetBool(!field.Bool())
		case reflect.String:
			field.SetString(field.String() + "!")
		case reflect.Struct:
			spoilFields(field)
		}
	}
}

// stream returns a function that returns numbers from 0 up to n, the same ones each time.
func stream() func(n int) int {
	state := uint64(1)
	return func(n int) int {
		state = state*6364136223846793005 + 1442695040888963407
		return int(state >> 33 % uint64(n))
	}
}

// lists calls visit with each list of at most longest of the given elements.
func lists[T any](longest int, among []T, visit func(list []T)) {
	count := 1
	for size := range longest + 1 {
		for code := range count {
			list := make([]T, size)
			for i := range list {
				list[i] = among[code%len(among)]
				code /= len(among)
			}
			visit(list)
		}
		count *= len(among)
	}
}

// What the tests are held against, written by hand: a mistake in it would go unseen elsewhere.
func TestChapterReading(t *testing.T) {
	one := api.Font{Em: 1, Glyphs: []api.Info{{}}}
	if got := faults(one); got != "" {
		t.Errorf("%s", got)
	}
	if got := faults(api.Font{}); got != "em, glyphs" {
		t.Errorf("%s", got)
	}
	if got := string(encoding(one)); got != "TCF1\x02\x02\x00\x00\x00\x00\x00\x00\x00\x00" {
		t.Errorf("%q", got)
	}
	for text, want := range map[string]api.Errno{
		"": api.ErrEnd, "TCF": api.ErrEnd, "TCF2": api.ErrForm, "TCF1": api.ErrEnd, "TCF1\x80\x80\x80\x80\x80": api.ErrEnd, "TCF1\x80\x80\x80\x80\x80\x01": api.ErrForm, "TCF1\x80\x00": api.ErrForm,
		"TCF1\x02\x02\x00\x00\x00\x00\x00\x00\x00\x00": api.OK, "TCF1\x02\x02\x00\x00\x00\x00\x00\x00\x00\x00\x00": api.ErrForm, "TCF1\x02\x00\x00\x00\x00\x00": api.ErrFont, "TCF1\x02\x01": api.ErrForm,
	} {
		f, e := decoded([]byte(text))
		if e != want || e == api.OK && told(f, false) != told(one, false) {
			t.Errorf("%q: %d, %v", text, e, f)
		}
	}
	for n, want := range map[int]string{0: "\x00", 1: "\x02", -1: "\x01", 64: "\x80\x01", -64: "\x7f", 1 << 33: "\x80\x80\x80\x80\x40", -1 << 34: "\xff\xff\xff\xff\x7f"} {
		d := &decoder{bytes: number(n)}
		if string(number(n)) != want || d.number() != n {
			t.Errorf("%d: % X", n, number(n))
		}
	}
}
