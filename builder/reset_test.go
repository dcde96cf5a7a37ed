package builder_test

import (
	"testing"
)

// P16.2: reset, by each name that tells a mode, first of the stack and not, with a context element and without.
func TestReset(t *testing.T) {
	for _, c := range []struct {
		context string
		in      string
		mode    int
	}{
		{"", "<select></select>", 6}, {"", "<div><b><select></select>", 6}, {"", "<svg><desc><select></select>", 6}, {"", "<math><mi><select></select>", 6},
		{"", "<table><select></select>", 8}, {"", "<table><b><select></select>", 8}, {"", "<table><caption><select></select>", 10}, {"", "<table><tbody><select></select>", 12},
		{"", "<table><thead><select></select>", 12}, {"", "<table><tfoot><select></select>", 12}, {"", "<table><tr><select></select>", 13}, {"", "<table><td><select></select>", 14},
		{"", "<table><th><select></select>", 14}, {"", "<table><td><div><select></select>", 14}, {"", "<table><td><svg><desc><select></select>", 14},
		{"", "<table><colgroup><template></template>", 11}, {"", "<head><template></template>", 3}, {"", "<head></head><template></template>", 5},
		{"", "<select><template></template>", 15}, {"", "<table><td><select><template></template>", 16}, {"", "<table><select><template></template>", 16},
		{"", "<table><td><template><select><template></template>", 15}, {"", "<template><table><td><select><template></template>", 16},
		{"", "<template><select></select>", 6}, {"", "<template><tr><td><select></select>", 14}, {"", "<template><tr><template></template>", 13},
		{"", "<template><template></template>", 17}, {"", "<template><tr></tr><template></template>", 12}, {"", "<template><td></td><template></template>", 13},
		{"", "<template><col><template></template>", 11}, {"", "<template><caption></caption><template></template>", 8}, {"", "<template><p></p><template></template>", 6},
		{"", "<table><tr><td></table>", 6}, {"", "<table><td><table></table>", 14}, {"", "<table><caption><table></table>", 10}, {"", "<div><table></table>", 6}, {"", "<template><table></table>", 6},
		{"", "<svg><select></select>", 6}, {"", "<svg><desc><table></table>", 6},

		{"div", "", 6}, {"select", "", 15}, {"td", "", 6}, {"th", "", 6}, {"tr", "", 13}, {"tbody", "", 12}, {"thead", "", 12}, {"tfoot", "", 12}, {"caption", "", 10}, {"colgroup", "", 11},
		{"table", "", 8}, {"template", "", 17}, {"head", "", 6}, {"body", "", 6}, {"frameset", "", 19}, {"html", "", 2}, {"col", "", 6}, {"noscript", "", 6}, {"Table", "", 6},

		{"div", "<select></select>", 6}, {"div", "<table><td><select></select>", 14}, {"select", "<template></template>", 15}, {"td", "<template></template>", 6},
		{"tr", "<select></select>", 13}, {"tr", "<td><select></select>", 14}, {"tbody", "<select></select>", 12}, {"caption", "<select></select>", 10},
		{"colgroup", "<template></template>", 11}, {"table", "<select></select>", 8}, {"table", "<select><template></template>", 15}, {"table", "<select>", 16},
		{"template", "<template></template>", 17}, {"template", "<tr></tr><template></template>", 12}, {"head", "<template></template>", 6}, {"body", "<select></select>", 6},
		{"html", "<head></head><template></template>", 5}, {"html", "<head><template></template>", 3}, {"html", "<template></template>", 3}, {"html", "<p><select></select>", 6},
	} {
		w := benchOf(t, false, c.context)
		w.feed(c.in)
		if got := w.b.Mode(); got != c.mode {
			t.Errorf("%q in %q: the mode is %d; want %d", c.in, c.context, got, c.mode)
		}
	}
}

// P16.2: a select that is told by reset is in a table, if one comes ahead of a template below it.
func TestSelectInTableBehindReset(t *testing.T) {
	w := newBench(t)
	w.feed("<!DOCTYPE html><table><td><select><option><template></template><tr>")
	w.tree("<!html> html(head body(table(tbody(tr(td(select(option(template)))) tr))))")
	w = newBench(t)
	w.feed("<!DOCTYPE html><table><td><template><select><option><template></template><tr>")
	w.tree("<!html> html(head body(table(tbody(tr(td(template[select(option(template))]))))))")
}
