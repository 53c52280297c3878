package wkb

import "polygons/api"

// Write writes the lists of a set, its numbers with their highest byte first
// (order 0) or their lowest (order 1).
func Write(polys [][][]api.Pt, order int) string {
	text := head(setKind, len(polys), order)
	for _, rings := range polys {
		text += head(polygonKind, len(rings), order)
		for _, points := range rings {
			text += ring(points, order)
		}
	}
	return text
}

func ring(points []api.Pt, order int) string {
	text := number(uint64(len(points)), countSize, order)
	for _, p := range points {
		x := double(p.X)
		text += number(x, doubleSize, order)
		y := double(p.Y)
		text += number(y, doubleSize, order)
	}
	return text
}

// head is what a geometry begins with.
func head(kind uint64, count int, order int) string {
	text := number(uint64(order), 1, order)
	text += number(kind, countSize, order)
	text += number(uint64(count), countSize, order)
	return text
}

// number writes the lowest so many bytes of a number.
func number(value uint64, size int, order int) string {
	bytes := make([]byte, size)
	rest := value
	for i := 0; i < size; i++ {
		at := size - 1 - i
		if order == lowFirst {
			at = i
		}
		bytes[at] = byte(rest)
		rest >>= 8
	}
	return string(bytes)
}
