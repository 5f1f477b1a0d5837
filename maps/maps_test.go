package maps

import (
	"math"
	"regexp"
	"slices"
	"strconv"
	"strings"
	"testing"

	"fellwalker/api"
)

var rows = regexp.MustCompile(`\A([1-9#]{1,8}\n){1,8}\z`)

// readable says by the form alone what Read must answer.
func readable(s string) (api.Grid, bool) {
	if !rows.MatchString(s) {
		return api.Grid{}, false
	}
	l := strings.Split(strings.TrimSuffix(s, "\n"), "\n")
	g := api.Grid{W: len(l[0]), H: len(l)}
	for _, row := range l {
		if len(row) != g.W {
			return api.Grid{}, false
		}
		for _, c := range strings.Split(row, "") {
			n, _ := strconv.Atoi(strings.ReplaceAll(c, "#", "0"))
			g.Cells = append(g.Cells, n)
		}
	}
	return g, true
}

func expectRead(t *testing.T, s string) {
	t.Helper()
	g, e := Read(s)
	want, ok := readable(s)
	if !ok {
		expectSyntax(t, s)
		return
	}
	if e != api.OK || !same(g, want) {
		t.Errorf("%q %v %v", s, g, e)
	}
	if back, e := Print(g); back != s || e != api.OK {
		t.Errorf("%q %q %v", s, back, e)
	}
}

func expectSyntax(t *testing.T, s string) {
	t.Helper()
	if g, e := Read(s); e != api.ErrSyntax || g.W != 0 || g.H != 0 || g.Cells != nil {
		t.Errorf("%q %v %v", s, g, e)
	}
}

func same(a, b api.Grid) bool {
	return a.W == b.W && a.H == b.H && slices.Equal(a.Cells, b.Cells)
}

// ground makes a grid whose cells go from 0 to 9, in an order that hangs on seed.
func ground(w, h, seed int) api.Grid {
	g := api.Grid{W: w, H: h}
	for i := range w * h {
		g.Cells = append(g.Cells, (i*i+i*seed+seed/3)%(api.MaxCell+1))
	}
	return g
}

func TestPrint(t *testing.T) {
	for _, x := range []struct {
		name string
		g    api.Grid
		want string
	}{
		{"two rows of three", api.Grid{W: 3, H: 2, Cells: []int{1, 2, 0, 3, 4, 5}}, "12#\n345\n"},
		{"three rows of two", api.Grid{W: 2, H: 3, Cells: []int{1, 2, 0, 3, 4, 5}}, "12\n#3\n45\n"},
		{"one cell", api.Grid{W: 1, H: 1, Cells: []int{9}}, "9\n"},
		{"one rock", api.Grid{W: 1, H: 1, Cells: []int{0}}, "#\n"},
		{"one row", api.Grid{W: 8, H: 1, Cells: []int{0, 1, 2, 3, 4, 5, 6, 7}}, "#1234567\n"},
		{"one column", api.Grid{W: 1, H: 8, Cells: []int{9, 8, 7, 6, 5, 4, 0, 1}}, "9\n8\n7\n6\n5\n4\n#\n1\n"},
		{"8 by 8", api.Grid{W: 8, H: 8, Cells: slices.Repeat([]int{1, 0, 2, 0, 3, 0, 4, 9}, 8)}, strings.Repeat("1#2#3#49\n", 8)},
	} {
		if s, e := Print(x.g); s != x.want || e != api.OK {
			t.Errorf("%v %q %v", x.name, s, e)
		}
	}
}

func TestPrintRefuses(t *testing.T) {
	for _, x := range []struct {
		name string
		g    api.Grid
		want api.Errno
	}{
		{"nothing", api.Grid{}, api.ErrArg},
		{"no row", api.Grid{W: 1}, api.ErrArg},
		{"no column", api.Grid{H: 1}, api.ErrArg},
		{"rows of nine", api.Grid{W: 9, H: 1, Cells: make([]int, 9)}, api.ErrArg},
		{"nine rows", api.Grid{W: 1, H: 9, Cells: make([]int, 9)}, api.ErrArg},
		{"sides below 0", api.Grid{W: -1, H: -1, Cells: []int{1}}, api.ErrArg},
		{"far below 0", api.Grid{W: math.MinInt, H: 1}, api.ErrArg},
		{"far beyond", api.Grid{W: 1, H: math.MaxInt}, api.ErrArg},
		{"a side ahead of the form and the cells", api.Grid{W: 9, H: 2, Cells: []int{10}}, api.ErrArg},
		{"a cell too few", api.Grid{W: 2, H: 2, Cells: []int{1, 1, 1}}, api.ErrForm},
		{"a cell too many", api.Grid{W: 2, H: 2, Cells: make([]int, 5)}, api.ErrForm},
		{"the form ahead of the cells", api.Grid{W: 2, H: 2, Cells: []int{10}}, api.ErrForm},
		{"a cell of 10", api.Grid{W: 2, H: 1, Cells: []int{1, 10}}, api.ErrCost},
		{"a cell below 0", api.Grid{W: 2, H: 1, Cells: []int{-1, 1}}, api.ErrCost},
		{"a cell of 256 and 1", api.Grid{W: 1, H: 1, Cells: []int{257}}, api.ErrCost},
	} {
		if s, e := Print(x.g); s != "" || e != x.want {
			t.Errorf("%v %q %v", x.name, s, e)
		}
	}
}

func TestReadIsPrintTurned(t *testing.T) {
	for w := 1; w <= api.MaxSide; w++ {
		for h := 1; h <= api.MaxSide; h++ {
			for seed := range 12 {
				g := ground(w, h, seed)
				s, e := Print(g)
				if want, ok := readable(s); e != api.OK || !ok || !same(want, g) {
					t.Errorf("%v %q %v", g, s, e)
				}
				if got, e := Read(s); e != api.OK || !same(got, g) {
					t.Errorf("%v %q %v %v", g, s, got, e)
				}
			}
		}
	}
}

func TestReadRefuses(t *testing.T) {
	eight := strings.Repeat("12345678\n", 8)
	for _, s := range []string{
		"", "\n", "\n\n", "1", "12", "#", "12\n34",
		"1\n\n", "\n1\n", "1\n\n1\n", "\n12\n", "12\n34\n\n", eight + "\n", eight[:len(eight)-1], "\n" + eight,
		"12\n3\n", "1\n23\n", "12\n3\n456\n", "1\n234\n56\n", "12\n3\n4\n", "12\n3\n4\n56", "1234\n12\n34\n",
		eight + "12345678\n", strings.Repeat("1\n", 9), "123456789\n", strings.Repeat("123456789\n", 8), strings.Repeat("#", 9) + "\n",
		"0\n", "10\n", "01\n", "12\n30\n", "00\n", "#0\n",
		"a\n", "A\n", " \n", "1 \n", " 1\n", "-1\n", "+1\n", ".\n", "1,2\n", "/\n", ":\n", "\"\n", "$\n", "\x00\n", "\t\n", "\x01\n", "\x09\n",
		"1\r\n", "1\r", "1\n\r", "1\n#\x00\n", "\xb1\n", "\xff\n", "1\xff\n", "é\n", "１\n", "𝟙\n",
		"1\x00", "1\n2\n ", " 1\n2\n", "#\n\x00",
	} {
		expectSyntax(t, s)
		if _, ok := readable(s); ok {
			t.Errorf("%q can be read", s)
		}
	}
}

func TestReadTakesOnlyTheBytesOfCells(t *testing.T) {
	for b := range 256 {
		for _, s := range []string{string([]byte{byte(b), '\n'}), string([]byte{'1', byte(b), '\n'}), string([]byte{'1', '\n', byte(b), '\n'}), string([]byte{'1', byte(b)}), string([]byte{'1', '\n', byte(b)})} {
			expectRead(t, s)
		}
	}
}

func TestReadOfAllShortTexts(t *testing.T) {
	const signs = "\n#019:"
	texts := []string{""}
	for range 6 {
		var longer []string
		for _, s := range texts {
			expectRead(t, s)
			for _, c := range strings.Split(signs, "") {
				longer = append(longer, s+c)
			}
		}
		texts = longer
	}
	for _, s := range texts {
		expectRead(t, s)
	}
}

func TestReadOfRowsOfAllLengths(t *testing.T) {
	for a := range 10 {
		for b := range 10 {
			for c := range 10 {
				s := strings.Repeat("1", a) + "\n" + strings.Repeat("2", b) + "\n" + strings.Repeat("#", c) + "\n"
				expectRead(t, s)
				expectRead(t, s[:len(s)-1])
			}
		}
	}
	for w := range 12 {
		for h := range 12 {
			expectRead(t, strings.Repeat(strings.Repeat("7", w)+"\n", h))
		}
	}
}

func TestReadOfLongTexts(t *testing.T) {
	for _, s := range []string{"1", "#", "\n", "1\n", "12345678\n", "0", "\x00"} {
		expectSyntax(t, strings.Repeat(s, 1<<20))
	}
}

func TestWhatIsHandedInStays(t *testing.T) {
	room := []int{7, 1, 2, 0, 4, 8, 9}
	was := slices.Clone(room)
	g := api.Grid{W: 2, H: 2, Cells: room[1:5]}
	s, _ := Print(g)
	if !slices.Equal(room, was) || !same(g, api.Grid{W: 2, H: 2, Cells: was[1:5]}) {
		t.Error(room, g)
	}
	clear(room)
	if s != "12\n#4\n" {
		t.Errorf("%q", s)
	}
	if s, e := Print(g); s != "##\n##\n" || e != api.OK {
		t.Errorf("the ground of now is rock, %q %v", s, e)
	}
}

func TestWhatIsAnsweredStays(t *testing.T) {
	a, _ := Read("12\n#4\n")
	b, _ := Read("12\n#4\n")
	spoil(b.Cells)
	if !same(a, api.Grid{W: 2, H: 2, Cells: []int{1, 2, 0, 4}}) {
		t.Error(a)
	}
	c, e := Read("12\n#4\n")
	if e != api.OK || !same(a, c) {
		t.Error(c, e)
	}
}

func spoil(l []int) {
	l = l[:cap(l)]
	for i := range l {
		l[i] = -77
	}
}
