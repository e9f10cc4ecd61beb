"""The desk: takes a list of calls on one new carriage and gives back their answers."""

from carriage.track import Carriage

START = 0
SIGNALS = 1

# By a call's number: how many numbers the call takes up in the list, its own with them.
SIZES = (4, 3, 1)


def answer_call(car, call):
    if call[0] == START:
        return [car.start(call[1], call[2], call[3])]
    if call[0] == SIGNALS:
        return [car.signals(call[1], call[2])]
    return car.where()


def answers(calls):
    car = Carriage()
    given = []
    begin = 0
    while begin < len(calls):
        end = begin + SIZES[calls[begin]]
        answer = answer_call(car, calls[begin:end])
        given.append(len(answer))
        given.extend(answer)
        begin = end
    return given
