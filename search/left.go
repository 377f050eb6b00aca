package search

// left returns the rows and the columns that are left when the table has shrunk, both increasing.
func left(searchers, shop desk) ([]int, []int) {
	rows, columns := indexes(len(searchers.Loss)), indexes(len(shop.Loss))
	for {
		if at, found := searchers.needless(rows, columns); found {
			rows = without(rows, at)
		} else if at, found := shop.needless(columns, rows); found {
			columns = without(columns, at)
		} else {
			return rows, columns
		}
	}
}

// indexes returns all indexes below n.
func indexes(n int) []int {
	list := make([]int, n)
	for i := range list {
		list[i] = i
	}
	return list
}

// needless returns at which place of rows the first one stands that can be left out of these rows and columns, and false
// if there is none.
func (d desk) needless(rows, columns []int) (int, bool) {
	for at, row := range rows {
	search:
		for _, other := range rows {
			var more losses
			for _, column := range columns {
				more[column] = d.Loss[other][column] - d.Loss[row][column]
				if more[column] < 0 {
					continue search
				}
			}
			if other < row || more != (losses{}) {
				return at, true
			}
		}
	}
	return 0, false
}
