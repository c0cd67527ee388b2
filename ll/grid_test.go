package ll

import (
	"reflect"
	"strconv"
	"testing"
)

func TestGridOf(t *testing.T) {
	at := func(row, col int) string { return strconv.Itoa(row) + strconv.Itoa(col) }
	if l := gridOf(2, 3, at); !reflect.DeepEqual(l, grid[string]{{"00", "01", "02"}, {"10", "11", "12"}}) {
		t.Errorf("%v", l)
	}
	if l := gridOf(0, 3, at); len(l) > 0 {
		t.Errorf("%v", l)
	}
	if l := gridOf(2, 0, at); len(l) != 2 || len(l[0])+len(l[1]) > 0 {
		t.Errorf("%v", l)
	}
}

func TestEach(t *testing.T) {
	if l := each(grid[int]{{1, 2}, {3, 4}}, strconv.Itoa); !reflect.DeepEqual(l, grid[string]{{"1", "2"}, {"3", "4"}}) {
		t.Errorf("%v", l)
	}
	if l := each(grid[int]{}, strconv.Itoa); len(l) > 0 {
		t.Errorf("%v", l)
	}
}

func TestGathered(t *testing.T) {
	found := func(row, col int, cell string) (l []string) {
		for range row + col {
			l = append(l, cell)
		}
		return l
	}
	if l := gathered(grid[string]{{"a", "b"}, {"c", "d"}}, found); !reflect.DeepEqual(l, []string{"b", "c", "d", "d"}) {
		t.Errorf("%v", l)
	}
	if l := gathered(grid[string]{{"a"}}, found); l != nil {
		t.Errorf("%v", l)
	}
}
