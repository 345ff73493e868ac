package matrix_test

import (
	"math"
	"slices"
	"testing"

	"caulk/api"
	"caulk/gf"
	"caulk/matrix"
)

// noise is a matrix without a pattern, always the same one for one seed.
func noise(seed uint32, rows, columns int) api.Matrix {
	m := make(api.Matrix, rows)
	for i := range m {
		m[i] = make([]byte, columns)
		for j := range m[i] {
			seed = seed*1664525 + 1013904223
			m[i][j] = byte(seed >> 24)
		}
	}
	return m
}

// twin is m again, that shares nothing with it.
func twin(m api.Matrix) api.Matrix {
	l := slices.Clone(m)
	for i := range l {
		l[i] = slices.Clone(l[i])
	}
	return l
}

func same(a, b api.Matrix) bool {
	return slices.EqualFunc(a, b, slices.Equal)
}

// unit is the unit as the chapter's words say it.
func unit(n int) api.Matrix {
	m := make(api.Matrix, n)
	for i := range m {
		m[i] = make([]byte, n)
		m[i][i] = 1
	}
	return m
}

// byHand is the product as the chapter's words say it, element by element.
func byHand(a, b api.Matrix) api.Matrix {
	p := make(api.Matrix, len(a))
	for i := range a {
		p[i] = make([]byte, len(b[0]))
		for j := range p[i] {
			for x := range b {
				p[i][j] ^= gf.Mul(a[i][x], b[x][j])
			}
		}
	}
	return p
}

// determinant is 0, if and only if there is no inverse.
func determinant(m api.Matrix) byte {
	if len(m) == 1 {
		return m[0][0]
	}
	var sum byte
	for j, c := range m[0] {
		var rest api.Matrix
		for _, row := range m[1:] {
			rest = append(rest, slices.Concat(row[:j], row[j+1:]))
		}
		sum ^= gf.Mul(c, determinant(rest))
	}
	return sum
}

// wrong are matrices that are not right.
func wrong() []api.Matrix {
	return []api.Matrix{
		nil, {}, {nil}, {{}}, {{}, {}}, {{}, {1}}, {{1}, {}}, {{1}, nil},
		{{1, 2}, {3}}, {{1}, {2, 3}}, {{1, 2}, {3, 4}, {5, 6, 7}}, {{1, 2}, {3, 4}, {5}},
		noise(1, 256, 1), noise(1, 1, 256), noise(1, 256, 256), noise(1, 1, 1000), make(api.Matrix, 3),
	}
}

// right are matrices that are right, of all shapes.
func right() []api.Matrix {
	l := []api.Matrix{{{0}}, {{1}}, {{0, 0}, {0, 0}}, noise(1, 255, 255), noise(2, 255, 1), noise(3, 1, 255), noise(4, 255, 2), noise(5, 2, 255)}
	for n := range 49 {
		l = append(l, noise(uint32(n), n/7+1, n%7+1))
	}
	return l
}

// apart tells whether no row of m has room behind it, and none shares memory with another.
func apart(m api.Matrix) bool {
	was := twin(m)
	for i := range m {
		if longer := append(m[i], 0xa5); len(longer) == 0 || !same(m, was) {
			return false
		}
		for j := range m[i] {
			m[i][j] ^= 0xff
			was[i][j] ^= 0xff
			if !same(m, was) {
				return false
			}
		}
	}
	return true
}

func TestCheck(t *testing.T) { // 3.1
	for i, m := range wrong() {
		if err := matrix.Check(m); err != api.ErrForm {
			t.Errorf("Check of the wrong matrix %d = %d", i, err)
		}
	}
	for i, m := range right() {
		if err := matrix.Check(m); err != api.OK {
			t.Errorf("Check of the right matrix %d = %d", i, err)
		}
	}
}

func TestUnit(t *testing.T) { // 3.1
	for n := 1; n <= 255; n++ {
		m, err := matrix.Unit(n)
		if err != api.OK || !same(m, unit(n)) {
			t.Errorf("Unit(%d) = %v, %d", n, m, err)
		}
	}
	for _, n := range []int{0, -1, 256, 257, math.MaxInt, math.MinInt, 1 << 32, 1<<32 + 1} {
		if m, err := matrix.Unit(n); m != nil || err != api.ErrRange {
			t.Errorf("Unit(%d) = %v, %d", n, m, err)
		}
	}
}

func TestMul(t *testing.T) { // 3.1
	for n := range 7 * 7 * 7 {
		rows, inner, columns := n/49+1, n/7%7+1, n%7+1
		a, b := noise(uint32(n), rows, inner), noise(uint32(n+1000), inner, columns)
		p, err := matrix.Mul(a, b)
		if err != api.OK || !same(p, byHand(a, b)) {
			t.Errorf("Mul of %d by %d, and %d by %d = %v, %d", rows, inner, inner, columns, p, err)
		}
	}
	for _, x := range [][3]int{{255, 255, 255}, {255, 1, 255}, {1, 255, 1}, {255, 2, 1}, {1, 1, 255}} {
		a, b := noise(1, x[0], x[1]), noise(2, x[1], x[2])
		if p, err := matrix.Mul(a, b); err != api.OK || !same(p, byHand(a, b)) {
			t.Errorf("Mul of %v is another one, or has the error %d", x, err)
		}
	}
	p, err := matrix.Mul(api.Matrix{{2, 1}, {0, 3}}, api.Matrix{{0x80, 1}, {1, 0}})
	if err != api.OK || !same(p, api.Matrix{{0x1c, 2}, {3, 0}}) {
		t.Errorf("Mul = %x, %d", p, err)
	}
}

func TestMulOfWrongInputs(t *testing.T) { // 3.1
	good := api.Matrix{{1, 2}, {3, 4}}
	for i, m := range wrong() {
		for _, x := range [][2]api.Matrix{{m, good}, {good, m}, {m, m}, {m, {{1}}}, {{{1}}, m}} {
			if p, err := matrix.Mul(x[0], x[1]); p != nil || err != api.ErrForm {
				t.Errorf("Mul with the wrong matrix %d = %v, %d", i, p, err)
			}
		}
	}
	for _, x := range [][4]int{{2, 2, 1, 2}, {2, 2, 3, 2}, {1, 2, 1, 2}, {3, 1, 3, 1}, {1, 255, 254, 1}, {1, 254, 255, 1}} {
		if p, err := matrix.Mul(noise(1, x[0], x[1]), noise(2, x[2], x[3])); p != nil || err != api.ErrRange {
			t.Errorf("Mul of %v = %v, %d", x, p, err)
		}
	}
}

func TestRows(t *testing.T) { // 3.1
	a := api.Matrix{{1, 2, 3}, {4, 5, 6}, {7, 8, 9}, {0, 0, 0}}
	for _, rows := range [][]int{{0}, {3}, {0, 1, 2, 3}, {3, 2, 1, 0}, {2, 0}, {1, 1}, {0, 1, 0, 1, 0, 1, 0}} {
		var want api.Matrix
		for _, r := range rows {
			want = append(want, a[r])
		}
		if m, err := matrix.Rows(a, rows...); err != api.OK || !same(m, want) {
			t.Errorf("Rows(.., %v) = %v, %d", rows, m, err)
		}
	}
	big := noise(1, 255, 255)
	all := make([]int, 255)
	for i := range all {
		all[i] = i
	}
	if m, err := matrix.Rows(big, all...); err != api.OK || !same(m, big) {
		t.Errorf("all of 255 rows are others, or the error %d", err)
	}
	if m, err := matrix.Rows(api.Matrix{{5}}, make([]int, 255)...); err != api.OK || len(m) != 255 || m[254][0] != 5 {
		t.Errorf("one row 255 times is %d rows, the error %d", len(m), err)
	}
}

func TestRowsOfWrongInputs(t *testing.T) { // 3.1
	for i, m := range wrong() {
		for _, rows := range [][]int{nil, {0}, {-1}, make([]int, 256)} {
			if l, err := matrix.Rows(m, rows...); l != nil || err != api.ErrForm {
				t.Errorf("Rows of the wrong matrix %d = %v, %d", i, l, err)
			}
		}
	}
	a := api.Matrix{{1, 2}, {3, 4}}
	for _, rows := range [][]int{nil, {}, {2}, {-1}, {0, 2}, {0, 1, -1}, {math.MaxInt}, {math.MinInt}, {1 << 32}, make([]int, 256)} {
		if l, err := matrix.Rows(a, rows...); l != nil || err != api.ErrRange {
			t.Errorf("Rows(.., %d of them) = %v, %d", len(rows), l, err)
		}
	}
}

func TestInvert(t *testing.T) { // 3.2
	for _, x := range []struct{ m, want api.Matrix }{
		{api.Matrix{{1}}, api.Matrix{{1}}},
		{api.Matrix{{2}}, api.Matrix{{0x8e}}},
		{api.Matrix{{0, 1}, {1, 0}}, api.Matrix{{0, 1}, {1, 0}}},
		{api.Matrix{{0, 2}, {3, 0}}, api.Matrix{{0, 0xf4}, {0x8e, 0}}},
		{api.Matrix{{0, 1, 0}, {0, 0, 1}, {1, 0, 0}}, api.Matrix{{0, 0, 1}, {1, 0, 0}, {0, 1, 0}}},
		{api.Matrix{{1, 1}, {0, 1}}, api.Matrix{{1, 1}, {0, 1}}},
		{unit(255), unit(255)},
	} {
		if got, err := matrix.Invert(x.m); err != api.OK || !same(got, x.want) {
			t.Errorf("Invert(%x) = %x, %d, not %x", x.m, got, err, x.want)
		}
	}
}

func TestInvertOrNot(t *testing.T) { // 3.2: all small ones, of few elements so that many have no inverse
	for n := 1; n <= 4; n++ {
		for seed := range uint32(1000) {
			m := noise(seed, n, n)
			for i := range m {
				for j := range m[i] {
					m[i][j] %= 3
				}
			}
			inverse, err := matrix.Invert(m)
			if determinant(m) == 0 {
				if inverse != nil || err != api.ErrZero {
					t.Fatalf("Invert(%v) = %v, %d", m, inverse, err)
				}
			} else if err != api.OK || !same(byHand(m, inverse), unit(n)) {
				t.Fatalf("Invert(%v) = %v, %d", m, inverse, err)
			}
		}
	}
}

func TestInvertOfWrongInputs(t *testing.T) { // 3.2
	for i, m := range wrong() {
		if got, err := matrix.Invert(m); got != nil || err != api.ErrForm {
			t.Errorf("Invert of the wrong matrix %d = %v, %d", i, got, err)
		}
	}
	for _, x := range [][2]int{{1, 2}, {2, 1}, {3, 2}, {255, 254}, {254, 255}, {1, 255}, {255, 1}} {
		if got, err := matrix.Invert(noise(1, x[0], x[1])); got != nil || err != api.ErrRange {
			t.Errorf("Invert of %v = %v, %d", x, got, err)
		}
		if got, err := matrix.Invert(make0(x[0], x[1])); got != nil || err != api.ErrRange {
			t.Errorf("Invert of %v noughts = %v, %d", x, got, err)
		}
	}
	alike := noise(1, 255, 255)
	copy(alike[254], alike[0])
	sum := noise(2, 40, 40)
	for j := range sum[7] {
		sum[7][j] = gf.Mul(5, sum[3][j]) ^ gf.Mul(9, sum[30][j])
	}
	column := noise(3, 40, 40)
	for i := range column {
		column[i][20] = column[i][21]
	}
	for i, m := range []api.Matrix{make0(1, 1), make0(2, 2), make0(255, 255), {{1, 1}, {1, 1}}, {{1, 0}, {1, 0}}, {{0, 0}, {0, 1}}, {{2, 4}, {3, 6}}, alike, sum, column} {
		if got, err := matrix.Invert(m); got != nil || err != api.ErrZero {
			t.Errorf("Invert of what has no inverse (%d) = %v, %d", i, got, err)
		}
	}
}

// make0 is rows of noughts.
func make0(rows, columns int) api.Matrix {
	m := make(api.Matrix, rows)
	for i := range m {
		m[i] = make([]byte, columns)
	}
	return m
}

func TestCauchy(t *testing.T) { // 3.2
	m, err := matrix.Cauchy(2, 2)
	if err != api.OK || !same(m, api.Matrix{{0x8e, 0xf4}, {0xf4, 0x8e}}) {
		t.Errorf("Cauchy(2, 2) = %x, %d", m, err)
	}
	for _, x := range [][2]int{{1, 1}, {1, 2}, {2, 1}, {3, 5}, {16, 4}, {127, 128}, {128, 127}, {254, 1}, {1, 254}, {200, 55}} {
		k, m := x[0], x[1]
		c, err := matrix.Cauchy(k, m)
		if err != api.OK || len(c) != m {
			t.Fatalf("Cauchy(%d, %d) has %d rows, the error %d", k, m, len(c), err)
		}
		for i := range c {
			if len(c[i]) != k {
				t.Fatalf("Cauchy(%d, %d) has %d columns", k, m, len(c[i]))
			}
			for j, e := range c[i] {
				if gf.Mul(e, byte((k+i)^j)) != 1 {
					t.Fatalf("Cauchy(%d, %d) has %02x in the row %d, the column %d", k, m, e, i, j)
				}
			}
		}
	}
}

func TestCauchyOfWrongInputs(t *testing.T) { // 3.2
	for _, x := range [][2]int{
		{0, 1}, {1, 0}, {0, 0}, {-1, 5}, {5, -1}, {255, 1}, {1, 255}, {128, 128}, {255, 0}, {0, 255}, {256, 1}, {1, 256}, {300, -100}, {-100, 300},
		{math.MaxInt, 1}, {1, math.MaxInt}, {math.MaxInt, math.MaxInt}, {math.MinInt, math.MinInt}, {math.MinInt, 1}, {math.MaxInt, math.MinInt}, {1<<32 + 1, 1},
	} {
		if c, err := matrix.Cauchy(x[0], x[1]); c != nil || err != api.ErrRange {
			t.Errorf("Cauchy(%d, %d) has %d rows, the error %d", x[0], x[1], len(c), err)
		}
	}
}

func TestNewMemory(t *testing.T) { // 3.3
	a, b := noise(1, 5, 5), noise(2, 5, 5)
	wasA, wasB := twin(a), twin(b)
	for _, x := range []struct {
		name string
		call func() (api.Matrix, api.Errno)
	}{
		{"Unit", func() (api.Matrix, api.Errno) { return matrix.Unit(5) }},
		{"Mul", func() (api.Matrix, api.Errno) { return matrix.Mul(a, b) }},
		{"Invert", func() (api.Matrix, api.Errno) { return matrix.Invert(a) }},
		{"Cauchy", func() (api.Matrix, api.Errno) { return matrix.Cauchy(5, 3) }},
		{"Rows", func() (api.Matrix, api.Errno) { return matrix.Rows(a, 4, 1, 1, 0) }},
	} {
		m, err := x.call()
		was := twin(m)
		if err != api.OK || !apart(m) {
			t.Errorf("%s: its rows share memory, or the error %d", x.name, err)
		}
		if !same(a, wasA) || !same(b, wasB) {
			t.Fatalf("%s changed what it was given, or shares memory with it", x.name)
		}
		if again, _ := x.call(); !same(again, was) {
			t.Errorf("%s answers something else when its answer was changed", x.name)
		}
	}
}

func TestArgumentsStay(t *testing.T) { // 3.3: also where rows have room behind them, and beside an error
	all := []byte{0, 2, 9, 3, 0, 9}
	a := api.Matrix{all[0:2], all[3:5]}
	rows := []int{1, 0}
	matrix.Mul(a, a)
	matrix.Invert(a)
	matrix.Rows(a, rows...)
	matrix.Invert(api.Matrix{all[1:3], all[1:3]})
	if !slices.Equal(all, []byte{0, 2, 9, 3, 0, 9}) || !slices.Equal(rows, []int{1, 0}) || &a[0][0] != &all[0] || &a[1][0] != &all[3] {
		t.Errorf("what was given was changed: %v, %v, %v", all, rows, a)
	}
}

func TestEitherWay(t *testing.T) { // 3.4
	n := 0
	for seed := range uint32(60) {
		m := noise(seed, int(seed)+1, int(seed)+1)
		inverse, err := matrix.Invert(m)
		if err == api.ErrZero {
			continue
		}
		n++
		left, err1 := matrix.Mul(inverse, m)
		other, err2 := matrix.Mul(m, inverse)
		back, err3 := matrix.Invert(inverse)
		if err != api.OK || err1 != api.OK || err2 != api.OK || err3 != api.OK {
			t.Fatalf("the errors %d, %d, %d, %d", err, err1, err2, err3)
		}
		if !same(left, unit(len(m))) || !same(other, unit(len(m))) || !same(back, m) {
			t.Errorf("the inverse of %d rows is one from one side alone, or its inverse is not the matrix", len(m))
		}
	}
	if n < 40 {
		t.Errorf("of 60 matrices %d alone have an inverse", n)
	}
}

func TestGreatestInverse(t *testing.T) { // 3.4
	m := noise(9, 255, 255)
	inverse, err := matrix.Invert(m)
	if err != api.OK || !same(byHand(m, inverse), unit(255)) || !same(byHand(inverse, m), unit(255)) {
		t.Errorf("the inverse of 255 rows is none, the error %d", err)
	}
}

// stack is the unit with a Cauchy matrix below it.
func stack(t *testing.T, k, m int) api.Matrix {
	t.Helper()
	above, err1 := matrix.Unit(k)
	below, err2 := matrix.Cauchy(k, m)
	if err1 != api.OK || err2 != api.OK {
		t.Fatalf("Unit and Cauchy of %d and %d have the errors %d, %d", k, m, err1, err2)
	}
	return append(above, below...)
}

func TestAnyOfThem(t *testing.T) { // 3.5: all choices of few, and some of many
	for k := 1; k <= 5; k++ {
		for m := 1; m <= 5; m++ {
			all := stack(t, k, m)
			for bits := range 1 << (k + m) {
				var rows []int
				for i := range k + m {
					if bits>>i&1 == 1 {
						rows = append(rows, i)
					}
				}
				if len(rows) == k {
					hasInverse(t, all, rows)
				}
			}
		}
	}
	for _, x := range [][2]int{{127, 128}, {200, 55}, {10, 245}, {254, 1}} {
		all := stack(t, x[0], x[1])
		for seed := range uint32(3) {
			hasInverse(t, all, some(seed, x[0]+x[1], x[0]))
		}
	}
}

// some is k of the numbers below n, none twice, in no order.
func some(seed uint32, n, k int) []int {
	l := make([]int, n)
	for i := range l {
		l[i] = i
	}
	for i := range l {
		seed = seed*1664525 + 1013904223
		j := i + int(seed>>8)%(n-i)
		l[i], l[j] = l[j], l[i]
	}
	return l[:k]
}

func hasInverse(t *testing.T, all api.Matrix, rows []int) {
	t.Helper()
	m, err := matrix.Rows(all, rows...)
	if err != api.OK {
		t.Fatalf("Rows(.., %v) has the error %d", rows, err)
	}
	inverse, err := matrix.Invert(m)
	if err != api.OK || !same(byHand(m, inverse), unit(len(rows))) {
		t.Fatalf("the rows %v of %d have no inverse: %d", rows, len(all), err)
	}
}
