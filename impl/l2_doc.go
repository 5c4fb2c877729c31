package impl

import (
	"slices"
	"strconv"
	"strings"
)

// Limits of documents.
const (
	FieldMax = 4
	NameMax  = 8
	NumMax   = 999999999
	TagMax   = 4
)

// Kinds of fields.
const (
	FieldText = 1
	FieldNum  = 2
	FieldTag  = 3
)

// Field is a name, a kind, and how much words in it count.
type Field struct {
	Name   string
	Kind   int
	Weight int
}

// Cell is what a document has in a field.
type Cell struct {
	Name string
	Text string
}

// Doc is a document: a key, and cells.
type Doc struct {
	Key   string
	Cells []Cell
}

// content is what a cell holds, as the kind of its field has it.
type content interface {
	ok() bool
}

// There is a content for each kind of field.
type (
	textContent string
	numContent  string
	tagContent  string
)

// told is what a content says; nothing, where its kind says nothing of that sort.
type told struct {
	num   int
	isNum bool
	tags  []string
}

// NameOk says whether a text is a name.
func NameOk(s string) bool {
	if s == "" || len(s) > NameMax || isFigure(s[0]) {
		return false
	}
	for i := range len(s) {
		if !isSmall(s[i]) && !isFigure(s[i]) {
			return false
		}
	}
	return true
}

// FieldsOk says whether fields are ok.
func FieldsOk(list []Field) bool {
	if len(list) == 0 || len(list) > FieldMax {
		return false
	}
	for i, f := range list {
		_, twice := fieldOf(list[:i], f.Name)
		if twice || !NameOk(f.Name) || !weightOk(f) {
			return false
		}
	}
	return true
}

// FieldsPut writes fields.
func FieldsPut(list []Field) string {
	if !FieldsOk(list) {
		return ""
	}
	var parts []string
	for _, f := range list {
		parts = append(parts, fieldPut(f))
	}
	return strings.Join(parts, " ")
}

// FieldsGet reads fields.
func FieldsGet(text string) ([]Field, bool) {
	var list []Field
	for _, part := range strings.Split(text, " ") {
		f, ok := fieldGet(part)
		if !ok {
			return nil, false
		}
		list = append(list, f)
	}
	if !FieldsOk(list) {
		return nil, false
	}
	return list, true
}

// DocOk says whether a document is ok, by fields.
func DocOk(fields []Field, d Doc) bool {
	if !FieldsOk(fields) || !docHasForm(d) {
		return false
	}
	for _, c := range d.Cells {
		f, there := fieldOf(fields, c.Name)
		if !there || !contentOf(f.Kind, c.Text).ok() {
			return false
		}
	}
	return true
}

// DocText is what a document has in a field; false if it has nothing there.
func DocText(d Doc, name string) (string, bool) {
	for _, c := range d.Cells {
		if c.Name == name {
			return strings.Clone(c.Text), true
		}
	}
	return "", false
}

// DocNum is the number that a document has in a field of numbers.
func DocNum(fields []Field, d Doc, name string) (int, bool) {
	t := docTold(fields, d, name)
	return t.num, t.isNum
}

// DocTags is tags that a document has in a field of tags, ascending, each once.
func DocTags(fields []Field, d Doc, name string) []string {
	return docTold(fields, d, name).tags
}

// DocPut writes a document.
func DocPut(d Doc) string {
	if !docHasForm(d) {
		return ""
	}
	var out strings.Builder
	out.WriteString(d.Key)
	for _, c := range d.Cells {
		out.WriteString("\n" + c.Name + "=" + c.Text)
	}
	return out.String()
}

// DocGet reads a document.
func DocGet(text string) (Doc, bool) {
	lines := strings.Split(text, "\n")
	d := Doc{Key: strings.Clone(lines[0])}
	for _, line := range lines[1:] {
		name, rest, ok := strings.Cut(line, "=")
		if !ok {
			return Doc{}, false
		}
		d.Cells = append(d.Cells, Cell{Name: strings.Clone(name), Text: strings.Clone(rest)})
	}
	if !docHasForm(d) {
		return Doc{}, false
	}
	return d, true
}

// fieldOf is the field of a name; false if there is none.
func fieldOf(list []Field, name string) (Field, bool) {
	for _, f := range list {
		if f.Name == name {
			return f, true
		}
	}
	return Field{}, false
}

// weightOk says whether a field has a kind, and a weight that goes with it: words alone count.
func weightOk(f Field) bool {
	switch f.Kind {
	case FieldText:
		return 1 <= f.Weight && f.Weight <= 9
	case FieldNum, FieldTag:
		return f.Weight == 0
	}
	return false
}

// fieldPut writes a field that is ok.
func fieldPut(f Field) string {
	switch f.Kind {
	case FieldText:
		return f.Name + ":text:" + strconv.Itoa(f.Weight)
	case FieldNum:
		return f.Name + ":num"
	}
	return f.Name + ":tag"
}

// fieldGet reads a field of any name and weight; whether these may be FieldsOk says.
func fieldGet(part string) (Field, bool) {
	name, rest, _ := strings.Cut(part, ":")
	f := Field{Name: strings.Clone(name)}
	switch rest {
	case "num":
		f.Kind = FieldNum
		return f, true
	case "tag":
		f.Kind = FieldTag
		return f, true
	}
	figures, isText := strings.CutPrefix(rest, "text:")
	weight, ok := figuresGet(figures)
	if !isText || !ok {
		return Field{}, false
	}
	f.Kind, f.Weight = FieldText, weight
	return f, true
}

// docHasForm says whether a document can be written, whatever its fields are.
func docHasForm(d Doc) bool {
	if !NameOk(d.Key) || len(d.Cells) > FieldMax {
		return false
	}
	for i, c := range d.Cells {
		if i > 0 && d.Cells[i-1].Name >= c.Name {
			return false
		}
		if !NameOk(c.Name) || !textOk(c.Text) {
			return false
		}
	}
	return true
}

// docTold is what the cell of a name says in a document that is ok, and nothing in all others. It reads the copy that DocText makes, so tags hang on no argument.
func docTold(fields []Field, d Doc, name string) told {
	if !DocOk(fields, d) {
		return told{}
	}
	text, there := DocText(d, name)
	if !there {
		return told{}
	}
	f, _ := fieldOf(fields, name)
	return contentTold(contentOf(f.Kind, text))
}

// contentOf is a text as a kind of field has it.
func contentOf(kind int, text string) content {
	switch kind {
	case FieldNum:
		return numContent(text)
	case FieldTag:
		return tagContent(text)
	}
	return textContent(text)
}

// contentTold tells kinds apart, so that what one says is never taken for what another one does.
func contentTold(c content) told {
	switch c := c.(type) {
	case numContent:
		n, ok := numGet(string(c))
		return told{num: n, isNum: ok}
	case tagContent:
		return told{tags: c.names()}
	}
	return told{}
}

func (c textContent) ok() bool {
	return textOk(string(c))
}

func (c numContent) ok() bool {
	_, ok := numGet(string(c))
	return ok
}

func (c tagContent) ok() bool {
	parts := strings.Split(string(c), ",")
	for _, p := range parts {
		if !NameOk(p) {
			return false
		}
	}
	return len(parts) <= TagMax
}

// names is in order, each once; the text itself may have them in any order, and twice.
func (c tagContent) names() []string {
	list := strings.Split(string(c), ",")
	slices.Sort(list)
	return slices.Compact(list)
}

// textOk says whether a text may stand in a cell.
func textOk(s string) bool {
	return len(s) <= TextMax && isPlain(s)
}

// isPlain says whether a text has no bytes but those that can be seen, and blanks.
func isPlain(s string) bool {
	for i := range len(s) {
		if s[i] < 32 || s[i] > 126 {
			return false
		}
	}
	return true
}

// numGet reads a number; -0 is none, as each number has one text.
func numGet(s string) (int, bool) {
	figures, below := strings.CutPrefix(s, "-")
	n, ok := figuresGet(figures)
	if !ok || below && n == 0 {
		return 0, false
	}
	if below {
		return -n, true
	}
	return n, true
}

// figuresGet reads a number from 0 to NumMax, which nine figures, the most that it takes, cannot pass.
func figuresGet(s string) (int, bool) {
	if s == "" || len(s) > 9 || len(s) > 1 && s[0] == '0' {
		return 0, false
	}
	n := 0
	for i := range len(s) {
		if !isFigure(s[i]) {
			return 0, false
		}
		n = 10*n + int(s[i]-'0')
	}
	return n, true
}
